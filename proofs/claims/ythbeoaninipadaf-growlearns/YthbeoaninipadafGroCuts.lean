/-
  What grow.cutsOf answers of samples that are right: the numbers of a feature, rising, each once, but the least.
-/
import Derived.Test.YthbeoaninipadafGroBest
import Derived.Test.YthbeoaninipadafSortOwn
namespace Go.Proofs.Ythbeoaninipadaf
open Go.ChangeShapes Go.WideShapes Go.ChangeAt Go.RowKit Go.Lib
set_option linter.unusedVariables false

theorem ris_pos {l : List M.Sa} {f : Nat} (h : 0 < l.length) : 0 < (M.risL l f).length := by
  rcases hr : M.risL l f with _ | ⟨v, t⟩
  · exfalso
    have e : M.colA (M.sAt l 0) f ∈ M.risL l f := (M.ris_mem l f _).2 ((M.col_at l f _).2 ⟨0, h, rfl⟩)
    rw [hr] at e
    cases e
  · simp
theorem drop_rd {w : World} {base g cap : Nat} {V : List Int} (h : w.ownsRow base 3 1 (.slice (some ⟨g, 0, none⟩) V.length cap) V.length (V.map (Value.int .i64))) (ag : Option Addr) (ha : V.length ≠ 1 → ag = some ⟨g, 1, none⟩) (h0 : 0 < V.length) : Rd w ag (V.drop 1) := by
  obtain ⟨a2, c2, e2, hr, _⟩ := own_rd h
  rw [Value.slice.injEq] at e2
  have e2' := e2.1
  subst e2'
  refine ⟨by rw [List.length_drop]; have := hr.1; omega, fun hn => ?_⟩
  have hl : 1 < V.length := by
    have : 0 < (V.drop 1).length := List.length_pos_iff.2 hn
    rw [List.length_drop] at this
    omega
  obtain ⟨b, off, e, hb, hc⟩ := hr.2 (by intro e; rw [e] at h0; simp at h0)
  have ea := ha (by omega)
  cases e
  refine ⟨g, 1, ea, hb, fun i hi => ?_⟩
  rw [List.length_drop] at hi
  have := hc (i + 1) (by omega)
  rw [show 0 + (i + 1) = 1 + i by omega] at this
  rw [this]
  simp [List.getD]

theorem own_room {w : World} {base g n cap : Nat} {l : List Value} (h : w.ownsRow base 3 1 (.slice (some ⟨g, 0, none⟩) n cap) n l) : n ≤ cap ∧ cap ≤ 9223372036854775807 := by
  rcases h.2 with ⟨h0, _⟩ | ⟨g', cap', cur, hv, hb, hg, h1, h2, h3⟩
  · cases h0
  · cases hv
    unfold maxLen at h2
    exact ⟨h1, h2⟩
set_option maxHeartbeats 4000000 in
set_option maxRecDepth 10000 in
theorem gcuts_any : GCutsGives := by
  intro a xs ca m f w h A hf hp
  have HL := hide h
  have AA := hide A
  have l60 := A.le
  obtain ⟨i0, hi, hz0, hz1, hz2⟩ := info_parts info3
  have CA : Hid (∀ k (hk : k < xs.length) (hk' : k < (M.colL (sms xs) f).length), (M.colL (sms xs) f)[k]'hk' = xs[k].2.1.getD f 0) := fun k hk hk' => by simp [M.colL, sms, M.colA, sm]
  have CL : Hid ((M.colL (sms xs) f).length = xs.length) := by unfold Hid; rw [M.colL_len, sms_len]
  have RP : Hid (0 < (M.risL (sms xs) f).length) := ris_pos (by rw [sms_len]; exact hp)
  have RL : Hid ((M.risL (sms xs) f).length ≤ 60) := by
    unfold Hid M.risL
    have e1 := compact_le (M.sortI (M.colL (sms xs) f))
    rw [M.sort_length, CL.out] at e1
    omega
  have RD : Hid (Lib.compact (M.sortI (M.colL (sms xs) f)) = M.risL (sms xs) f) := rfl
  have SO := hide (fun v F W h h1 h2 => sort_own w.heap.size v F W h h1 h2)
  have CO := hide (fun v F W h h1 h2 => compact_own w.heap.size v F W h h1 h2)
  have SL := hide (M.sort_length (M.colL (sms xs) f))
  have EC : Hid (M.cutP (sms xs) f = (M.risL (sms xs) f).drop 1) := rfl
  obtain ⟨CP, hCP⟩ : ∃ C, C = M.cutP (sms xs) f := ⟨_, rfl⟩
  rw [← hCP] at EC ⊢
  clear h A hCP
  generalize M.risL (sms xs) f = R at *
  generalize M.colL (sms xs) f = F at *
  go_enter Try.func47, Try.ntmps47
  go_wp2_with (at_make; refine wpList_make_full _ rfl (.tmp 9) (.tmp 9) 23 rfl w.heap.size 3 i0 (.int .i64 0) 1 Try.underlying23 hi hz0 hz1 .i64 .i64 _ _ xs.length rfl rfl (by omega) (by omega) (by rw [hz2]; omega) (by unfold maxLen; omega) (Nat.le_refl _) ?_; intro w2 hown hgrow)
  rw [made] at hown
  have hB : Hid (Below w.heap.size w w2) := (Below.refl _ w).grown hgrow (Nat.le_refl _) (fun k hk => by cases hk)
  have ho : Hid (w2.ownsRow w.heap.size 3 1 (.slice (some ⟨w.heap.size, 0, none⟩) xs.length xs.length) xs.length ((M.fillI F 0).map (Value.int .i64))) := by
    unfold Hid; rw [M.fill_zero, CL.out]; exact hown
  clear hown hgrow hi hz0 hz1 hz2
  go_loopw [13] (fun i wr => ∃ k : Nat, k ≤ xs.length ∧ i = .int .i64 k ∧ Hid (wr.ownsRow w.heap.size 3 1 (.slice (some ⟨w.heap.size, 0, none⟩) xs.length xs.length) xs.length ((M.fillI F k).map (Value.int .i64))) ∧ Hid (Below w.heap.size w wr)) (fun i _ => xs.length - (intOf i).toNat)
  case atStart => exact ⟨0, Nat.zero_le _, rfl, ho, hB⟩
  case round =>
    obtain ⟨k, hk, rfl, HO, K⟩ := hrel
    clear ho hB
    by_cases hlt : k < xs.length
    · obtain ⟨bl, ol, rfl, hbl, hcl⟩ := (HL.out.below K.out).2.2 (by intro e; rw [e] at hlt; simp at hlt)
      obtain ⟨c0, c1⟩ := hcl k hlt
      have hr := AA.out.row xs[k] (List.getElem_mem hlt)
      have fr : f < xs[k].2.1.length := by omega
      obtain ⟨bx, ox, ex, hbx, hcx⟩ := ((HL.out.below K.out).2.1 xs[k] (List.getElem_mem hlt)).2 (by intro e; rw [e] at fr; simp at fr)
      have hx := hcx f fr
      have kl : k < F.length := by rw [CL.out]; exact hlt
      have UA : Hid (∀ o, Below wr.heap.size wr (wr.alloc o)) := fun o => (Below.refl _ wr).alloc (Nat.le_refl _) o
      have OA : Hid (∀ o, (wr.alloc o).ownsRow w.heap.size 3 1 (.slice (some ⟨w.heap.size, 0, none⟩) xs.length xs.length) xs.length ((M.fillI F k).map (Value.int .i64))) := fun o => own_up HO.out (UA.out o)
      have hlen : k < ((M.fillI F k).map (Value.int .i64)).length := by rw [List.length_map, M.fill_len _ _ (by omega)]; exact kl
      have FZ : ∀ o, (wr.alloc o).frozen? ⟨w.heap.size, k, none⟩ = false := fun o => (OA.out o).frozenAt k
      have CZ : ∀ o, (wr.alloc o).cell? ⟨w.heap.size, k, none⟩ = some (((M.fillI F k).map (Value.int .i64))[k]'hlen) := fun o => by
        rw [(OA.out o).cellAt k (by omega), List.getElem?_eq_getElem hlen]
      have GX : ∀ o, (wr.alloc o).cell? ⟨bx, ox + f, none⟩ = some (.int .i64 (xs[k].2.1.getD f 0)) := fun o => ((UA.out o).cell (p := ⟨bx, ox + f, none⟩) hbx).trans hx
      have HR : Hid (∀ o, ((wr.alloc o).setCell ⟨w.heap.size, k, none⟩ (.int .i64 (xs[k].2.1.getD f 0))).ownsRow w.heap.size 3 1 (.slice (some ⟨w.heap.size, 0, none⟩) xs.length xs.length) xs.length ((M.fillI F (k + 1)).map (Value.int .i64)) ∧ Below w.heap.size w ((wr.alloc o).setCell ⟨w.heap.size, k, none⟩ (.int .i64 (xs[k].2.1.getD f 0)))) := fun o =>
        fill_step (w := w) (x := xs[k].2.1.getD f 0) CL.out hlt (CA.out k hlt kl).symm (OA.out o) (below_on K.out (UA.out o))
      have kz : (k : Int) < (xs.length : Int) := by omega
      have fz : (f : Int) < (xs[k].2.1.length : Int) := by omega
      unfold sxV at c0
      rw [ex] at c0
      clear hcl hcx HL AA CA HO OA UA kl SO CO SL RD RP RL EC fr hr hx ex
      generalize xs[k].2.1.getD f 0 = v at *
      generalize xs[k].2.2.2 = t at *
      generalize xs[k].2.1.length = rl at *
      generalize xs[k].2.2.1 = rc at *
      generalize ((M.fillI F k).map (Value.int .i64))[k]'hlen = z at *
      clear hlen
      go_wp2
      go_roundw
      case rel => exact ⟨k + 1, by omega, by go_num, (HR.out _).1, (HR.out _).2⟩
      case measure => simp [intOf]; omega
    · have ke : k = F.length := by rw [CL.out]; omega
      have ho := HO.out
      rw [ke, M.fill_all] at ho
      rw [← CL.out] at ho
      have S1 := hide (SO.out (.slice (some ⟨w.heap.size, 0, none⟩) F.length F.length) F wr ho (by rw [CL.out]; omega) K.out.size)
      have C1 := hide (fun W => CO.out (.slice (some ⟨w.heap.size, 0, none⟩) F.length F.length) (M.sortI F) W)
      rw [SL.out, RD.out] at C1
      rw [CL.out] at S1 C1
      have rp := RP.out
      have rl := RL.out
      clear ke ho HO HL AA CA SO CO SL RD RP RL CL
      generalize M.sortI F = SI at *
      go_upto_region 8 with (go_at_call 63; refine S1.out.mono ?_; rintro e w3 ⟨rfl, ho3, hb3⟩; have K3 := hide (K.out.trans hb3); have C3 := hide (C1.out w3 ho3 (by omega) K3.out.size); clear ho3 hb3)
      clear S1 C1
      have r1 : (1 : Int) ≤ (R.length : Int) := by omega
      go_wp2_with (go_at_call 64; refine C3.out.mono ?_; rintro e w4 ⟨v4, rfl, ho4, hb4⟩; obtain ⟨g, cap, rfl, hg1, hg2⟩ := own_shape ho4 rp; have hcap := (own_room ho4).1; have hcap2 := (own_room ho4).2; have HC := hide hcap; have O4 := hide ho4; have K4 := hide (K3.out.trans hb4); have G1 := hide hg1; clear ho4 hb4 hg1 hg2)
      all_goals (
        go_ret
        have e1 := EC.out
        have hc := HC.out
        subst e1
        first
          | exact ⟨_, ⟨_, by rw [List.length_drop]; rfl⟩, drop_rd O4.out _ (fun _ => rfl) rp, K4.out, fun p hp => by cases hp; exact G1.out⟩
          | exact ⟨_, ⟨_, by rw [List.length_drop]; rfl⟩, drop_rd O4.out _ (fun q => absurd (by omega) q) rp, K4.out, fun p hp => by cases hp; exact G1.out⟩)

end Go.Proofs.Ythbeoaninipadaf
