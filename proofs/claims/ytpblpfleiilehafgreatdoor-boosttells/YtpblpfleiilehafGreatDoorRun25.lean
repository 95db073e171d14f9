/-
  Several texts as one: GroCuts, GroC, RowCheck, GroIn, GroChk, GroP.
-/
import Derived.Test.YtpblpfleiilehafGreatDoorRun24
import Derived.Test.YtpblpfleiilehafGreatDoorRun7
import Derived.Test.YtpblpfleiilehafGreatDoorRun0
import Derived.Test.YtpblpfleiilehafGreatDoorShelf
import Derived.Test.YtpblpfleiilehafGreatDoorMathR
import Derived.RegionTactic
import Derived.Test.YtpblpfleiilehafGreatDoorRun11
import Derived.Deep.Cut
import Derived.Deep.CutRange
namespace Go.Proofs.YtpblpfleiilehafGreatDoor
open Go.ChangeShapes Go.WideShapes Go.ChangeAt Go.RowKit Go.Lib
set_option linter.unusedVariables false

theorem ris_pos {l : List M.Sa} {f : Nat} (h : 0 < l.length) : 0 < (M.risL l f).length := by
  rcases hr : M.risL l f with _ | ⟨v, t⟩
  · exfalso
    have e : M.colA (M.sAt l 0) f ∈ M.risL l f := (M.ris_mem l f _).2 ((M.col_at l f _).2 ⟨0, h, rfl⟩)
    rw [hr] at e
    cases e
  · simp
theorem drop_rd {w : World} {base g cap : Nat} {V : List Int} (h : w.ownsRow base 3 1 (.slice (some ⟨g, 0, none⟩) V.length cap) V.length (V.map (Value.int .i64))) (ag : Option Addr) (ha : V.length ≠ 1 → ag = some ⟨g, 1, none⟩) (h0 : 0 < V.length) : Rd w ag (V.drop 1) := by
  obtain ⟨a2, c2, e2, hr, _⟩ := own_rd h
  rw [Value.slice.injEq] at e2
  have e2' := e2.1
  subst e2'
  refine ⟨by rw [List.length_drop]; have := hr.1; omega, fun hn => ?_⟩
  have hl : 1 < V.length := by
    have : 0 < (V.drop 1).length := List.length_pos_iff.2 hn
    rw [List.length_drop] at this
    omega
  obtain ⟨b, off, e, hb, hc⟩ := hr.2 (by intro e; rw [e] at h0; simp at h0)
  have ea := ha (by omega)
  cases e
  refine ⟨g, 1, ea, hb, fun i hi => ?_⟩
  rw [List.length_drop] at hi
  have := hc (i + 1) (by omega)
  rw [show 0 + (i + 1) = 1 + i by omega] at this
  rw [this]
  simp [List.getD]

theorem own_room {w : World} {base g n cap : Nat} {l : List Value} (h : w.ownsRow base 3 1 (.slice (some ⟨g, 0, none⟩) n cap) n l) : n ≤ cap ∧ cap ≤ 9223372036854775807 := by
  rcases h.2 with ⟨h0, _⟩ | ⟨g', cap', cur, hv, hb, hg, h1, h2, h3⟩
  · cases h0
  · cases hv
    unfold maxLen at h2
    exact ⟨h1, h2⟩
set_option maxHeartbeats 4000000 in
set_option maxRecDepth 10000 in
theorem gcuts_any : GCutsGives := by
  intro a xs ca m f w h A hf hp
  have HL := hide h
  have AA := hide A
  have l60 := A.le
  obtain ⟨i0, hi, hz0, hz1, hz2⟩ := info_parts info3
  have CA : Hid (∀ k (hk : k < xs.length) (hk' : k < (M.colL (sms xs) f).length), (M.colL (sms xs) f)[k]'hk' = xs[k].2.1.getD f 0) := fun k hk hk' => by simp [M.colL, sms, M.colA, sm]
  have CL : Hid ((M.colL (sms xs) f).length = xs.length) := by unfold Hid; rw [M.colL_len, sms_len]
  have RP : Hid (0 < (M.risL (sms xs) f).length) := ris_pos (by rw [sms_len]; exact hp)
  have RL : Hid ((M.risL (sms xs) f).length ≤ 60) := by
    unfold Hid M.risL
    have e1 := compact_le (M.sortI (M.colL (sms xs) f))
    rw [M.sort_length, CL.out] at e1
    omega
  have RD : Hid (Lib.compact (M.sortI (M.colL (sms xs) f)) = M.risL (sms xs) f) := rfl
  have SO := hide (fun v F W h h1 h2 => sort_own w.heap.size v F W h h1 h2)
  have CO := hide (fun v F W h h1 h2 => compact_own w.heap.size v F W h h1 h2)
  have SL := hide (M.sort_length (M.colL (sms xs) f))
  have EC : Hid (M.cutP (sms xs) f = (M.risL (sms xs) f).drop 1) := rfl
  obtain ⟨CP, hCP⟩ : ∃ C, C = M.cutP (sms xs) f := ⟨_, rfl⟩
  rw [← hCP] at EC ⊢
  clear h A hCP
  generalize M.risL (sms xs) f = R at *
  generalize M.colL (sms xs) f = F at *
  go_enter Tryz.func54, Tryz.ntmps54
  go_wp2_with (at_make; refine wpList_make_full _ rfl (.tmp 9) (.tmp 9) 42 rfl w.heap.size 3 i0 (.int .i64 0) 1 Tryz.underlying42 hi hz0 hz1 .i64 .i64 _ _ xs.length rfl rfl (by omega) (by omega) (by rw [hz2]; omega) (by unfold maxLen; omega) (Nat.le_refl _) ?_; intro w2 hown hgrow)
  rw [made] at hown
  have hB : Hid (Below w.heap.size w w2) := (Below.refl _ w).grown hgrow (Nat.le_refl _) (fun k hk => by cases hk)
  have ho : Hid (w2.ownsRow w.heap.size 3 1 (.slice (some ⟨w.heap.size, 0, none⟩) xs.length xs.length) xs.length ((M.fillI F 0).map (Value.int .i64))) := by
    unfold Hid; rw [M.fill_zero, CL.out]; exact hown
  clear hown hgrow hi hz0 hz1 hz2
  go_loopw [13] (fun i wr => ∃ k : Nat, k ≤ xs.length ∧ i = .int .i64 k ∧ Hid (wr.ownsRow w.heap.size 3 1 (.slice (some ⟨w.heap.size, 0, none⟩) xs.length xs.length) xs.length ((M.fillI F k).map (Value.int .i64))) ∧ Hid (Below w.heap.size w wr)) (fun i _ => xs.length - (intOf i).toNat)
  case atStart => exact ⟨0, Nat.zero_le _, rfl, ho, hB⟩
  case round =>
    obtain ⟨k, hk, rfl, HO, K⟩ := hrel
    clear ho hB
    by_cases hlt : k < xs.length
    · obtain ⟨bl, ol, rfl, hbl, hcl⟩ := (HL.out.below K.out).2.2 (by intro e; rw [e] at hlt; simp at hlt)
      obtain ⟨c0, c1⟩ := hcl k hlt
      have hr := AA.out.row xs[k] (List.getElem_mem hlt)
      have fr : f < xs[k].2.1.length := by omega
      obtain ⟨bx, ox, ex, hbx, hcx⟩ := ((HL.out.below K.out).2.1 xs[k] (List.getElem_mem hlt)).2 (by intro e; rw [e] at fr; simp at fr)
      have hx := hcx f fr
      have kl : k < F.length := by rw [CL.out]; exact hlt
      have UA : Hid (∀ o, Below wr.heap.size wr (wr.alloc o)) := fun o => (Below.refl _ wr).alloc (Nat.le_refl _) o
      have OA : Hid (∀ o, (wr.alloc o).ownsRow w.heap.size 3 1 (.slice (some ⟨w.heap.size, 0, none⟩) xs.length xs.length) xs.length ((M.fillI F k).map (Value.int .i64))) := fun o => own_up HO.out (UA.out o)
      have hlen : k < ((M.fillI F k).map (Value.int .i64)).length := by rw [List.length_map, M.fill_len _ _ (by omega)]; exact kl
      have FZ : ∀ o, (wr.alloc o).frozen? ⟨w.heap.size, k, none⟩ = false := fun o => (OA.out o).frozenAt k
      have CZ : ∀ o, (wr.alloc o).cell? ⟨w.heap.size, k, none⟩ = some (((M.fillI F k).map (Value.int .i64))[k]'hlen) := fun o => by
        rw [(OA.out o).cellAt k (by omega), List.getElem?_eq_getElem hlen]
      have GX : ∀ o, (wr.alloc o).cell? ⟨bx, ox + f, none⟩ = some (.int .i64 (xs[k].2.1.getD f 0)) := fun o => ((UA.out o).cell (p := ⟨bx, ox + f, none⟩) hbx).trans hx
      have HR : Hid (∀ o, ((wr.alloc o).setCell ⟨w.heap.size, k, none⟩ (.int .i64 (xs[k].2.1.getD f 0))).ownsRow w.heap.size 3 1 (.slice (some ⟨w.heap.size, 0, none⟩) xs.length xs.length) xs.length ((M.fillI F (k + 1)).map (Value.int .i64)) ∧ Below w.heap.size w ((wr.alloc o).setCell ⟨w.heap.size, k, none⟩ (.int .i64 (xs[k].2.1.getD f 0)))) := fun o =>
        fill_step (w := w) (x := xs[k].2.1.getD f 0) CL.out hlt (CA.out k hlt kl).symm (OA.out o) (below_on K.out (UA.out o))
      have kz : (k : Int) < (xs.length : Int) := by omega
      have fz : (f : Int) < (xs[k].2.1.length : Int) := by omega
      unfold sxV at c0
      rw [ex] at c0
      clear hcl hcx HL AA CA HO OA UA kl SO CO SL RD RP RL EC fr hr hx ex
      generalize xs[k].2.1.getD f 0 = v at *
      generalize xs[k].2.2.2 = t at *
      generalize xs[k].2.1.length = rl at *
      generalize xs[k].2.2.1 = rc at *
      generalize ((M.fillI F k).map (Value.int .i64))[k]'hlen = z at *
      clear hlen
      go_wp2
      go_roundw
      case rel => exact ⟨k + 1, by omega, by go_num, (HR.out _).1, (HR.out _).2⟩
      case measure => simp [intOf]; omega
    · have ke : k = F.length := by rw [CL.out]; omega
      have ho := HO.out
      rw [ke, M.fill_all] at ho
      rw [← CL.out] at ho
      have S1 := hide (SO.out (.slice (some ⟨w.heap.size, 0, none⟩) F.length F.length) F wr ho (by rw [CL.out]; omega) K.out.size)
      have C1 := hide (fun W => CO.out (.slice (some ⟨w.heap.size, 0, none⟩) F.length F.length) (M.sortI F) W)
      rw [SL.out, RD.out] at C1
      rw [CL.out] at S1 C1
      have rp := RP.out
      have rl := RL.out
      clear ke ho HO HL AA CA SO CO SL RD RP RL CL
      generalize M.sortI F = SI at *
      go_upto_region 8 with (go_at_call 85; refine S1.out.mono ?_; rintro e w3 ⟨rfl, ho3, hb3⟩; have K3 := hide (K.out.trans hb3); have C3 := hide (C1.out w3 ho3 (by omega) K3.out.size); clear ho3 hb3)
      clear S1 C1
      have r1 : (1 : Int) ≤ (R.length : Int) := by omega
      go_wp2_with (go_at_call 86; refine C3.out.mono ?_; rintro e w4 ⟨v4, rfl, ho4, hb4⟩; obtain ⟨g, cap, rfl, hg1, hg2⟩ := own_shape ho4 rp; have hcap := (own_room ho4).1; have hcap2 := (own_room ho4).2; have HC := hide hcap; have O4 := hide ho4; have K4 := hide (K3.out.trans hb4); have G1 := hide hg1; clear ho4 hb4 hg1 hg2)
      all_goals (
        go_ret
        have e1 := EC.out
        have hc := HC.out
        subst e1
        first
          | exact ⟨_, ⟨_, by rw [List.length_drop]; rfl⟩, drop_rd O4.out _ (fun _ => rfl) rp, K4.out, fun p hp => by cases hp; exact G1.out⟩
          | exact ⟨_, ⟨_, by rw [List.length_drop]; rfl⟩, drop_rd O4.out _ (fun q => absurd (by omega) q) rp, K4.out, fun p hp => by cases hp; exact G1.out⟩)

end Go.Proofs.YtpblpfleiilehafGreatDoor

namespace Go.Proofs.YtpblpfleiilehafGreatDoor
open Go.ChangeShapes Go.WideShapes Go.ChangeAt Go.RowKit Go.Lib
set_option linter.unusedVariables false

def GroCheckGives : Prop := ∀ (a : Option Addr) (xs : List Sx) (ca : Nat) (m : Int) (W : World), RdL W a xs → Calls Tryz.prog 6 #[.slice a xs.length ca, .int .i64 m] W fun e w' => e = .returned (.tuple #[.int .i64 ((M.samF (sms xs) m).1 : Nat), errV (M.samF (sms xs) m).2]) ∧ Below W.heap.size W w'

end Go.Proofs.YtpblpfleiilehafGreatDoor

namespace Go.Proofs.YtpblpfleiilehafGreatDoor
open Go.ChangeShapes Go.WideShapes Go.ChangeAt Go.RowKit Go.Shelf Go.Lib Go.Sort
set_option linter.unusedVariables false

theorem isnum_any (x : Int) (w : World) :
    Calls Tryz.prog 79 #[.int .i64 x] w fun e w' => e = .returned (.bool (!M.outI x)) ∧ w' = w := by
  by_cases h1 : -1000000 ≤ x
  · have E : Hid (decide (x ≤ 1000000) = !M.outI x) := by
      unfold Hid M.outI
      rw [show decide (x < -1000000) = false from decide_eq_false (by omega), Bool.false_or]
      by_cases h2 : x ≤ 1000000
      · simp [h2]
      · simp [h2]; omega
    have h1' : decide (-1000000 ≤ x) = true := decide_eq_true h1
    clear h1
    go_enter Tryz.func79, Tryz.ntmps79
    go_wp2
    go_ret
    exact ⟨ret_bool E.out, rfl⟩
  · have E : Hid (false = !M.outI x) := by
      unfold Hid M.outI
      rw [show decide (x < -1000000) = true from decide_eq_true (by omega)]; rfl
    have h1' : decide (-1000000 ≤ x) = false := decide_eq_false h1
    clear h1
    go_enter Tryz.func79, Tryz.ntmps79
    go_wp2
    go_ret
    exact ⟨ret_bool E.out, rfl⟩

theorem bad_pred (w : World) : PredAt Tryz.prog 78 #[] (Value.int .i64) M.badCell w := fun W x _ => by
  unfold FnGives
  by_cases h1 : x = M.nilI
  · have E : Hid (false = M.badCell x) := by unfold Hid; rw [h1, M.good_nil]
    have q : (x != -1125899906842624) = false := by rw [bne_eq_false_iff_eq]; exact h1
    clear h1
    go_enter Tryz.func78, Tryz.ntmps78
    go_wp2
    go_ret
    exact ⟨ret_bool E.out, 0, rfl⟩
  · have E : Hid (M.outI x = M.badCell x) := by unfold Hid M.badCell; simp [h1]
    have q : (x != -1125899906842624) = true := by rw [bne_iff_ne]; exact h1
    have C := hide (isnum_any x)
    clear h1
    generalize M.outI x = o at *
    go_enter Tryz.func78, Tryz.ntmps78
    go_wp2_with (go_at_call 79; refine (C.out _).mono ?_; rintro e w' ⟨rfl, rfl⟩)
    go_ret
    exact ⟨ret_bool (by first | exact E.out | (rw [← E.out]; done) | (rw [← E.out]; simp)), 0, rfl⟩

theorem rcheck_any (a : Option Addr) (xs : List Int) (cap : Nat) (w : World) (h : Rd w a xs) :
    Calls Tryz.prog 50 #[.slice a xs.length cap] w fun e w' => e = .returned (errV (M.rowF xs)) ∧ Below w.heap.size w w' := by
  have hm : xs.length ≤ 9223372036854775807 := h.1
  have C : Calls Tryz.prog 77 #[.slice a xs.length cap, .func (.func 78) #[] #[]] w fun e w' => e = .returned (.bool (xs.any M.badCell)) ∧ ∃ q, w' = w.drewN q := by
    by_cases hx : xs = []
    · subst hx
      refine (Tryz.slices_ContainsFunc_empty (α := Int) a cap (.func (.func 78) #[] #[]) w).mono ?_
      rintro e w' ⟨rfl, rfl⟩
      exact ⟨rfl, 0, rfl⟩
    · obtain ⟨b, off, rfl, hb, hc⟩ := h.2 hx
      have := Tryz.slices_ContainsFunc (Value.int .i64) M.badCell 78 #[] (enters_of Tryz.func78 (by kernel_rfl) rfl) b off xs.length cap xs w (bad_pred w) (Nat.le_refl _) hm (fun j hj => by rw [getD_bang]; exact hc j hj)
      rw [List.take_length] at this
      exact this
  by_cases h1 : 8 < xs.length
  · have E : Hid (M.rowF xs = 4) := by unfold Hid M.rowF; rw [if_pos h1]
    have hd : decide ((8 : Int) < (xs.length : Int)) = true := by simp; omega
    clear h C
    go_enter Tryz.func50, Tryz.ntmps50
    go_wp2
    go_ret
    exact ⟨by rw [E.out]; rfl, Below.refl _ _⟩
  · have hd : decide ((8 : Int) < (xs.length : Int)) = false := by simp; omega
    have O := hide C
    clear C
    cases ho : xs.any M.badCell with
    | true =>
      have E : Hid (M.rowF xs = 1) := by unfold Hid M.rowF; rw [if_neg h1, ho]; rfl
      rw [ho] at O
      clear h ho
      go_enter Tryz.func50, Tryz.ntmps50
      go_wp2_with (go_at_call 77; refine O.out.mono ?_; rintro e w1 ⟨rfl, q, rfl⟩)
      go_ret
      exact ⟨by rw [E.out]; rfl, below_drew (Below.refl _ _) q (Nat.le_refl _)⟩
    | false =>
      have E : Hid (M.rowF xs = 0) := by unfold Hid M.rowF; rw [if_neg h1, ho]; rfl
      rw [ho] at O
      clear h ho
      go_enter Tryz.func50, Tryz.ntmps50
      go_wp2_with (go_at_call 77; refine O.out.mono ?_; rintro e w1 ⟨rfl, q, rfl⟩)
      go_ret
      exact ⟨by rw [E.out]; rfl, below_drew (Below.refl _ _) q (Nat.le_refl _)⟩

end Go.Proofs.YtpblpfleiilehafGreatDoor

namespace Go.Proofs.YtpblpfleiilehafGreatDoor
open Go.ChangeShapes Go.WideShapes Go.ChangeAt Go.RowKit Go.Lib
set_option linter.unusedVariables false

theorem getD_in (xs : List Int) {k : Nat} (h : k < xs.length) : xs.getD k 0 = xs[k] := by simp [List.getD, List.getElem?_eq_getElem h]

set_option maxHeartbeats 1000000 in
theorem gindex_any (a : Option Addr) (xs : List Int) (ca : Nat) (x : Int) (w : World) (h : Rd w a xs) :
    Calls Tryz.prog 80 #[.slice a xs.length ca, .int .i64 x] w fun e w' => ∃ n : Int, e = .returned (.int .i64 n) ∧ (0 ≤ n ↔ x ∈ xs) ∧ w' = w := by
  have hm : xs.length ≤ 9223372036854775807 := h.1
  have H := hide h
  clear h
  go_enter Tryz.func80, Tryz.ntmps80
  go_wp2
  go_loopw [5, 8] (fun _ i wr => ∃ k : Nat, k ≤ xs.length ∧ i = .int .i64 k ∧ Hid (∀ j, j < k → xs.getD j 0 ≠ x) ∧ Hid (wr = w)) (fun _ i _ => xs.length - (intOf i).toNat)
  case atStart => exact ⟨0, Nat.zero_le _, rfl, fun j hj => absurd hj (Nat.not_lt_zero _), rfl⟩
  case round =>
    obtain ⟨k, hk, rfl, HJ, W⟩ := hrel
    have we := W.out.symm
    subst we
    by_cases hlt : k < xs.length
    · obtain ⟨b, off, rfl, hb, hc⟩ := H.out.2 (by intro e; rw [e] at hlt; simp at hlt)
      have hck := hc k hlt
      have kz : (k : Int) < (xs.length : Int) := by omega
      by_cases he : x = xs.getD k 0
      · have q : (x == xs.getD k 0) = true := by rw [beq_iff_eq]; exact he
        have IN : Hid (x ∈ xs) := by unfold Hid; rw [he, getD_in xs hlt]; exact List.getElem_mem _
        clear hc he HJ H
        generalize xs.getD k 0 = v at *
        go_wp2
        go_ret
        exact ⟨_, rfl, ⟨fun _ => IN.out, fun _ => by omega⟩, rfl⟩
      · have q : (x == xs.getD k 0) = false := by rw [beq_eq_false_iff_ne]; exact he
        have HK : Hid (∀ j, j < k + 1 → xs.getD j 0 ≠ x) := fun j hj => by
          by_cases e : j = k
          · subst e; exact fun z => he z.symm
          · exact HJ.out j (by omega)
        clear hc he HJ H
        generalize xs.getD k 0 = v at *
        go_wp2
        go_roundw
        case rel => exact ⟨k + 1, by omega, by go_num, HK, (by first | rfl | trivial)⟩
        case measure => simp [intOf]; omega
    · have NI : Hid (x ∉ xs) := fun hx => by
        obtain ⟨j, hj, e⟩ := List.getElem_of_mem hx
        exact HJ.out j (by omega) (by rw [getD_in xs hj]; exact e)
      clear HJ H
      go_wp2
      go_ret
      exact ⟨_, rfl, ⟨fun q => absurd q (by decide), fun q => absurd q NI.out⟩, rfl⟩

theorem gcontains_any (a : Option Addr) (xs : List Int) (ca : Nat) (x : Int) (w : World) (h : Rd w a xs) :
    Calls Tryz.prog 51 #[.slice a xs.length ca, .int .i64 x] w fun e w' => e = .returned (.bool (decide (x ∈ xs))) ∧ w' = w := by
  have C := hide (gindex_any a xs ca x w h)
  clear h
  go_enter Tryz.func51, Tryz.ntmps51
  go_wp2_with (go_at_call 80; refine C.out.mono ?_; rintro e w1 ⟨n, rfl, hn, e1⟩; have HN := hide hn; clear hn; have e1' := e1.symm; subst e1')
  go_ret
  exact ⟨ret_bool (by rw [Bool.eq_iff_iff, decide_eq_true_eq, decide_eq_true_eq]; exact HN.out), rfl⟩

end Go.Proofs.YtpblpfleiilehafGreatDoor

namespace Go.Proofs.YtpblpfleiilehafGreatDoor
open Go.ChangeShapes Go.WideShapes Go.ChangeAt Go.RowKit Go.Lib
set_option linter.unusedVariables false

set_option maxHeartbeats 4000000 in
set_option maxRecDepth 10000 in
theorem chksample_any (ra : Option Addr) (xs : List Int) (rc : Nat) (t m : Int) (w : World) (h : Rd w ra xs) :
    Calls Tryz.prog 27 #[.agg #[.slice ra xs.length rc, .int .i64 t], .int .i64 m] w fun e w' => e = .returned (errV (M.sa1F m (xs, t))) ∧ Below w.heap.size w w' := by
  have hm : xs.length ≤ 9223372036854775807 := h.1
  have KA : Hid (∀ o, Below w.heap.size w (w.alloc o)) := fun o => (Below.refl _ w).alloc (Nat.le_refl _) o
  have RC := hide (fun W (hW : Below w.heap.size w W) => rcheck_any ra xs rc W (h.below hW))
  have CT := hide (fun W (hW : Below w.heap.size w W) => gcontains_any ra xs rc (-1125899906842624) W (h.below hW))
  have BX : Hid (∀ (o : Obj) W, Below (w.alloc o).heap.size (w.alloc o) W → ∀ j v, (w.alloc o).cell? ⟨w.heap.size, j, none⟩ = some v → W.cell? ⟨w.heap.size, j, none⟩ = some v) := fun o W hW j v hv => (hW.cell (p := ⟨w.heap.size, j, none⟩) (show w.heap.size < (w.alloc o).heap.size by simp)).trans hv
  obtain ⟨w1, hw1⟩ : ∃ W, W = w.alloc (.cells #[.slice ra xs.length rc, .int .i64 t] 54) := ⟨_, rfl⟩
  have K1 : Hid (Below w.heap.size w w1) := by unfold Hid; rw [hw1]; exact KA.out _
  have B1 : Hid (∀ W, Below w1.heap.size w1 W → W.cell? ⟨w.heap.size, 0, none⟩ = some (.slice ra xs.length rc) ∧ W.cell? ⟨w.heap.size, 1, none⟩ = some (.int .i64 t)) := fun W hW => by
    rw [hw1] at hW
    exact ⟨BX.out _ W hW 0 _ (World.cell?_alloc_at _ _ _ 0 rfl), BX.out _ W hW 1 _ (World.cell?_alloc_at _ _ _ 1 rfl)⟩
  have R1 := hide (RC.out w1 K1.out)
  obtain ⟨x0, x1⟩ := B1.out w1 (Below.refl _ _)
  have HW := hide hw1
  clear h KA RC BX hw1
  by_cases e1 : M.rowF xs = 0
  · rw [e1, err_nil rfl] at R1
    by_cases e2 : t < -1000 ∨ 1000 < t
    · have E : Hid ((1 : Int) = M.sa1F m (xs, t)) := (M.sa1_tgt (s := (xs, t)) e1 e2).symm
      by_cases e3 : t < -1000
      · have t1 : decide (t < -1000) = true := decide_eq_true e3
        clear e1 e2 e3 CT
        generalize M.sa1F m (xs, t) = o at *
        generalize xs.length = n at *
        go_enter Tryz.func27, Tryz.ntmps27
        go_upto_region 1 with fail
        rw [← HW.out]
        go_wp2_with (go_at_call 50; refine R1.out.mono ?_; rintro e w2 ⟨rfl, hb⟩; obtain ⟨y0, y1⟩ := B1.out w2 hb; have K2 := hide (below_on K1.out hb); clear hb)
        go_ret
        exact ⟨by rw [← E.out]; rfl, K2.out⟩
      · have t1 : decide (t < -1000) = false := decide_eq_false e3
        have t2 : decide (1000 < t) = true := decide_eq_true (by omega)
        clear e1 e2 e3 CT
        generalize M.sa1F m (xs, t) = o at *
        generalize xs.length = n at *
        go_enter Tryz.func27, Tryz.ntmps27
        go_upto_region 1 with fail
        rw [← HW.out]
        go_wp2_with (go_at_call 50; refine R1.out.mono ?_; rintro e w2 ⟨rfl, hb⟩; obtain ⟨y0, y1⟩ := B1.out w2 hb; have K2 := hide (below_on K1.out hb); clear hb)
        go_ret
        exact ⟨by rw [← E.out]; rfl, K2.out⟩
    · have t1 : decide (t < -1000) = false := decide_eq_false (by omega)
      have t2 : decide (1000 < t) = false := decide_eq_false (by omega)
      by_cases e3 : (xs.length : Int) = m
      · have q : ((xs.length : Int) != m) = false := by rw [bne_eq_false_iff_eq]; exact e3
        have E : Hid ((if decide (M.nilI ∈ xs) = true then 5 else 0 : Int) = M.sa1F m (xs, t)) := by
          unfold Hid
          rw [M.sa1_nil (s := (xs, t)) e1 e2 e3]
          by_cases z : M.nilI ∈ xs
          · rw [if_pos (decide_eq_true z), if_pos z]
          · rw [if_neg (by rw [decide_eq_false z]; decide), if_neg z]
        have CT2 : Hid (∀ W, Below w.heap.size w W → Calls Tryz.prog 51 #[.slice ra xs.length rc, .int .i64 (-1125899906842624)] W fun e w' => e = .returned (.bool (decide (M.nilI ∈ xs))) ∧ w' = W) := CT.out
        clear e1 e2 e3 CT
        generalize M.sa1F m (xs, t) = o at *
        generalize xs.length = n at *
        cases hd : decide (M.nilI ∈ xs) with
        | true =>
          rw [hd] at E CT2
          clear hd
          go_enter Tryz.func27, Tryz.ntmps27
          go_upto_region 1 with fail
          rw [← HW.out]
          go_wp2_with (first
            | (go_at_call 50; refine R1.out.mono ?_; rintro e w2 ⟨rfl, hb⟩; obtain ⟨y0, y1⟩ := B1.out w2 hb; have K2 := hide (below_on K1.out hb); clear hb)
            | (go_at_call 51; refine (CT2.out _ K2.out).mono ?_; rintro e w3 ⟨rfl, e3⟩; have e3' := e3.symm; subst e3'))
          go_ret
          exact ⟨by rw [← E.out]; rfl, K2.out⟩
        | false =>
          rw [hd] at E CT2
          clear hd
          go_enter Tryz.func27, Tryz.ntmps27
          go_upto_region 1 with fail
          rw [← HW.out]
          go_wp2_with (first
            | (go_at_call 50; refine R1.out.mono ?_; rintro e w2 ⟨rfl, hb⟩; obtain ⟨y0, y1⟩ := B1.out w2 hb; have K2 := hide (below_on K1.out hb); clear hb)
            | (go_at_call 51; refine (CT2.out _ K2.out).mono ?_; rintro e w3 ⟨rfl, e3⟩; have e3' := e3.symm; subst e3'))
          go_ret
          exact ⟨by rw [← E.out]; rfl, K2.out⟩
      · have q : ((xs.length : Int) != m) = true := by rw [bne_iff_ne]; exact e3
        have E : Hid ((3 : Int) = M.sa1F m (xs, t)) := (M.sa1_len (s := (xs, t)) e1 e2 e3).symm
        clear e1 e2 e3 CT
        generalize M.sa1F m (xs, t) = o at *
        generalize xs.length = n at *
        go_enter Tryz.func27, Tryz.ntmps27
        go_upto_region 1 with fail
        rw [← HW.out]
        go_wp2_with (go_at_call 50; refine R1.out.mono ?_; rintro e w2 ⟨rfl, hb⟩; obtain ⟨y0, y1⟩ := B1.out w2 hb; have K2 := hide (below_on K1.out hb); clear hb)
        go_ret
        exact ⟨by rw [← E.out]; rfl, K2.out⟩
  · have E : Hid (M.rowF xs = M.sa1F m (xs, t)) := (M.sa1_row (s := (xs, t)) e1).symm
    rw [err_some e1] at R1
    have ER : Hid (errV (M.rowF xs) = .iface 61 (.int .i64 (M.rowF xs))) := err_some e1
    clear e1 CT
    generalize M.sa1F m (xs, t) = o at *
    generalize M.rowF xs = rf at *
    generalize xs.length = n at *
    go_enter Tryz.func27, Tryz.ntmps27
    go_upto_region 1 with fail
    rw [← HW.out]
    go_wp2_with (go_at_call 50; refine R1.out.mono ?_; rintro e w2 ⟨rfl, hb⟩; obtain ⟨y0, y1⟩ := B1.out w2 hb; have K2 := hide (below_on K1.out hb); clear hb)
    go_ret
    exact ⟨by rw [← E.out, ER.out]; rfl, K2.out⟩

set_option maxHeartbeats 8000000 in
set_option maxRecDepth 10000 in
theorem grochk_any : GroCheckGives := by
  intro a xs ca m w h
  have hmx : xs.length ≤ 9223372036854775807 := h.1
  have sl := sms_len xs
  obtain ⟨V, hV⟩ : ∃ V, V = M.samF (sms xs) m := ⟨_, rfl⟩
  have EV := hide hV
  rw [← hV]
  obtain ⟨v1, v2⟩ := V
  clear hV
  by_cases h1 : 60 < xs.length
  · have E : Hid ((v1, v2) = ((0 : Nat), (4 : Int))) := by unfold Hid; rw [EV.out]; unfold M.samF; rw [if_pos (by omega)]
    have q : decide (60 < (xs.length : Int)) = true := decide_eq_true (by omega)
    clear EV h sl h1
    go_enter Tryz.func6, Tryz.ntmps6
    go_wp2
    go_ret2
    have e := E.out
    cases e
    exact ⟨rfl, Below.refl _ _⟩
  · have q : decide (60 < (xs.length : Int)) = false := decide_eq_false (by omega)
    by_cases h2 : xs.length = 0
    · have E : Hid ((v1, v2) = ((0 : Nat), (5 : Int))) := by unfold Hid; rw [EV.out]; unfold M.samF; rw [if_neg (by omega), if_pos (by omega)]
      have q2 : ((xs.length : Int) == 0) = true := by rw [beq_iff_eq]; omega
      clear EV h sl h1 h2
      generalize xs.length = n at *
      go_enter Tryz.func6, Tryz.ntmps6
      go_wp2
      go_ret2
      have e := E.out
      cases e
      exact ⟨rfl, Below.refl _ _⟩
    · have q2 : ((xs.length : Int) == 0) = false := by rw [beq_eq_false_iff_ne]; omega
      by_cases h3 : m < 0 ∨ 8 < m
      · have E : Hid ((v1, v2) = ((0 : Nat), (1 : Int))) := by unfold Hid; rw [EV.out]; unfold M.samF; rw [if_neg (by omega), if_neg (by omega), if_pos h3]
        by_cases h4 : m < 0
        · have q3 : decide (m < 0) = true := decide_eq_true h4
          clear EV h sl h1 h2 h3 h4
          generalize xs.length = n at *
          go_enter Tryz.func6, Tryz.ntmps6
          go_wp2
          go_ret2
          have e := E.out
          cases e
          exact ⟨rfl, Below.refl _ _⟩
        · have q3 : decide (m < 0) = false := decide_eq_false h4
          have q4 : decide (8 < m) = true := decide_eq_true (by omega)
          clear EV h sl h1 h2 h3 h4
          generalize xs.length = n at *
          go_enter Tryz.func6, Tryz.ntmps6
          go_wp2
          go_ret2
          have e := E.out
          cases e
          exact ⟨rfl, Below.refl _ _⟩
      · have q3 : decide (m < 0) = false := decide_eq_false (by omega)
        have q4 : decide (8 < m) = false := decide_eq_false (by omega)
        have FA : Hid (∀ k, k < xs.length → (∀ j, j < k → M.sa1F m (M.sAt (sms xs) j) = 0) → M.sa1F m (M.sAt (sms xs) k) ≠ 0 → (v1, v2) = (k, M.sa1F m (M.sAt (sms xs) k))) := fun k hk hj hn => by rw [EV.out]; exact M.sam_at (by omega) (by omega) (by omega) hj hn
        have FZ : Hid ((∀ j, j < xs.length → M.sa1F m (M.sAt (sms xs) j) = 0) → (v1, v2) = ((0 : Nat), (0 : Int))) := fun hj => by rw [EV.out]; exact M.sam_all (by omega) (by omega) (by omega) (fun j hj' => hj j (by omega))
        have HL := hide h
        have SA : Hid (∀ k (hk : k < xs.length), M.sAt (sms xs) k = sm xs[k]) := fun k hk => sms_at xs hk
        have LX := hide sl
        clear EV h sl h1 h2 h3
        go_enter Tryz.func6, Tryz.ntmps6
        go_wp2
        go_loopw [26] (fun i wr => ∃ k : Nat, k ≤ xs.length ∧ i = .int .i64 k ∧ Hid (∀ j, j < k → M.sa1F m (M.sAt (sms xs) j) = 0) ∧ Hid (Below w.heap.size w wr)) (fun i _ => xs.length - (intOf i).toNat)
        case atStart => exact ⟨0, Nat.zero_le _, rfl, fun j hj => absurd hj (Nat.not_lt_zero _), Below.refl _ _⟩
        case round =>
          clear q q2 q3 q4
          obtain ⟨k, hk, rfl, HJ, K⟩ := hrel
          by_cases hlt : k < xs.length
          · obtain ⟨bl, ol, rfl, hbl, hcl⟩ := (HL.out.below K.out).2.2 (by intro e; rw [e] at hlt; simp at hlt)
            obtain ⟨c0, c1⟩ := hcl k hlt
            have hrw := (HL.out.below K.out).2.1 xs[k] (List.getElem_mem hlt)
            have UA : Hid (∀ o, Below wr.heap.size wr (wr.alloc o)) := fun o => (Below.refl _ wr).alloc (Nat.le_refl _) o
            have CS : Hid (∀ o, Calls Tryz.prog 27 #[.agg #[.slice xs[k].1 xs[k].2.1.length xs[k].2.2.1, .int .i64 xs[k].2.2.2], .int .i64 m] (wr.alloc o) fun e w' => e = .returned (errV (M.sa1F m (M.sAt (sms xs) k))) ∧ Below (wr.alloc o).heap.size (wr.alloc o) w') := fun o => by
              rw [SA.out k hlt]
              exact chksample_any _ _ _ _ _ _ (hrw.below (UA.out o))
            have FK := hide (FA.out k hlt HJ.out)
            have kz : (k : Int) < (xs.length : Int) := by omega
            unfold sxV at c0
            by_cases e1 : M.sa1F m (M.sAt (sms xs) k) = 0
            · have HK : Hid (∀ j, j < k + 1 → M.sa1F m (M.sAt (sms xs) j) = 0) := fun j hj => by
                by_cases e : j = k
                · subst e; exact e1
                · exact HJ.out j (by omega)
              rw [e1, err_nil rfl] at CS
              clear hcl hrw FK FA FZ SA HJ HL e1 LX
              generalize xs[k].2.2.2 = t at *
              generalize xs[k].2.1.length = rl at *
              generalize xs[k].2.2.1 = rc at *
              generalize xs[k].1 = ra at *
              go_wp2_with (go_at_call 27; refine (CS.out _).mono ?_; rintro e w2 ⟨rfl, hb⟩; have K2 := hide (below_on K.out (below_on (UA.out _) hb)); clear hb)
              go_roundw
              case rel => exact ⟨k + 1, by omega, by go_num, HK, K2⟩
              case measure => simp [intOf]; omega
            · have E := hide (FK.out e1)
              rw [err_some e1] at CS
              have ER : Hid (errV (M.sa1F m (M.sAt (sms xs) k)) = .iface 61 (.int .i64 (M.sa1F m (M.sAt (sms xs) k)))) := err_some e1
              clear hcl hrw FK FA FZ SA HJ HL e1 LX
              generalize M.sa1F m (M.sAt (sms xs) k) = er at *
              generalize xs[k].2.2.2 = t at *
              generalize xs[k].2.1.length = rl at *
              generalize xs[k].2.2.1 = rc at *
              generalize xs[k].1 = ra at *
              go_wp2_with (go_at_call 27; refine (CS.out _).mono ?_; rintro e w2 ⟨rfl, hb⟩; have K2 := hide (below_on K.out (below_on (UA.out _) hb)); clear hb)
              go_ret2
              have e := E.out
              cases e
              exact ⟨by rw [ER.out]; rfl, K2.out⟩
          · have E := hide (FZ.out (fun j hj => HJ.out j (by omega)))
            clear FA FZ SA HJ HL LX
            go_wp2
            go_ret2
            have e := E.out
            cases e
            exact ⟨rfl, K.out⟩

end Go.Proofs.YtpblpfleiilehafGreatDoor

namespace Go.Proofs.YtpblpfleiilehafGreatDoor
open Go.ChangeShapes Go.WideShapes Go.ChangeAt Go.RowKit Go.Lib
set_option linter.unusedVariables false

def GroFitGives : Prop := ∀ (a : Option Addr) (xs : List Sx) (ca : Nat) (m depth least : Int) (W : World), RdL W a xs → Calls Tryz.prog 11 #[.slice a xs.length ca, .int .i64 m, .int .i64 depth, .int .i64 least] W fun e w' => ∃ pa pc, e = .returned (.tuple #[.slice pa (M.grwT (sms xs) m depth least).length pc, errV (M.grwF (sms xs) m depth least)]) ∧ RdN w' pa (M.grwT (sms xs) m depth least) ∧ Below W.heap.size W w'

end Go.Proofs.YtpblpfleiilehafGreatDoor
