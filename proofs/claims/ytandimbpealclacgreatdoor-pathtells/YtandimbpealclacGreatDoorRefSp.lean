/-
  What the reference's Any, Spans and Pick answer, for all spans (Pick: at most eight).
-/
import Derived.Test.YtandimbpealclacGreatDoorSpans
import Derived.Test.YtandimbpealclacGreatDoorRefCell
import Derived.Test.YtandimbpealclacGreatDoorMathZ
import Derived.Deep.AppendLies
import Derived.BigQuiet
import Derived.Deep.QuietTactic
namespace Go.Proofs.YtandimbpealclacGreatDoor
open Go.ChangeShapes Go.WideShapes Go.ChangeAt Go.RowKit
set_option linter.unusedVariables false

theorem RdS.at {w : World} {b off : Nat} {ss : List M.Sp} (hc : ∀ i, i < ss.length → w.cell? ⟨b, off + i * 3, none⟩ = some (.int .i64 (ss.getD i (0, 0, false)).1) ∧ w.cell? ⟨b, off + i * 3 + 1, none⟩ = some (.int .i64 (ss.getD i (0, 0, false)).2.1) ∧ w.cell? ⟨b, off + i * 3 + 2, none⟩ = some (.bool (ss.getD i (0, 0, false)).2.2)) (k : Nat) (hk : k < ss.length) :
    w.cell? ⟨b, off + k * 3, none⟩ = some (.int .i64 ss[k].1) ∧ w.cell? ⟨b, off + k * 3 + 1, none⟩ = some (.int .i64 ss[k].2.1) ∧ w.cell? ⟨b, off + k * 3 + 2, none⟩ = some (.bool ss[k].2.2) := by
  have := hc k hk
  rw [M.getD_at hk] at this
  exact this
theorem M.any_no {ss : List M.Sp} {k : Nat} (hk : k < ss.length) (h : M.hasS ss[k] = false) : M.anyS ss = false := by
  unfold M.anyS
  rw [List.all_eq_false]
  exact ⟨_, List.getElem_mem hk, by simp [h]⟩
theorem M.any_yes {ss : List M.Sp} {k : Nat} (hk : ss.length ≤ k) (h : (ss.take k).all M.hasS = true) : M.anyS ss = true := by
  rw [List.take_of_length_le hk] at h; exact h
theorem M.all_next {ss : List M.Sp} {k : Nat} (hk : k < ss.length) (h : (ss.take k).all M.hasS = true) (hb : M.hasS ss[k] = true) : (ss.take (k + 1)).all M.hasS = true := by
  rw [List.take_succ_eq_append_getElem hk, List.all_append, h]; simp [hb]

set_option maxHeartbeats 2000000 in
theorem any_any (a : Option Addr) (ss : List M.Sp) (cap : Nat) (w : World) (h : RdS w a ss) :
    Calls Tryz.prog 13 #[.slice a ss.length cap] w fun e w' => e = .returned (.bool (M.anyS ss)) ∧ Below w.heap.size w w' := by
  have hm : ss.length ≤ 9223372036854775807 := h.1
  have HR := hide h.2
  have AN : Hid (∀ k (hk : k < ss.length), M.hasS ss[k] = false → M.anyS ss = false) := fun k => M.any_no
  have AY : Hid (∀ k, ss.length ≤ k → (ss.take k).all M.hasS = true → M.anyS ss = true) := fun k => M.any_yes
  clear h
  generalize M.anyS ss = o at *
  go_enter Tryz.func13, Tryz.ntmps13
  go_wp2
  go_loopw [3] (fun i wr => ∃ k : Nat, k ≤ ss.length ∧ i = .int .i64 k ∧ Hid ((ss.take k).all M.hasS = true) ∧ Below w.heap.size w wr) (fun i _ => ss.length - (intOf i).toNat)
  case atStart => exact ⟨0, Nat.zero_le _, rfl, by unfold Hid; simp, Below.refl _ _⟩
  case round =>
    obtain ⟨k, hk, rfl, I, hbl⟩ := hrel
    by_cases hlt : k < ss.length
    · obtain ⟨b, off, rfl, hb, hc0⟩ := HR.out (by intro e; subst e; simp at hlt)
      obtain ⟨c0, c1, c2⟩ := RdS.at hc0 k hlt
      have s0 := (hbl.cell (p := ⟨b, off + k * 3, none⟩) hb).trans c0
      have s1 := (hbl.cell (p := ⟨b, off + k * 3 + 1, none⟩) hb).trans c1
      have s2 := (hbl.cell (p := ⟨b, off + k * 3 + 2, none⟩) hb).trans c2
      have NX : Hid (M.hasS ss[k] = true → (ss.take (k + 1)).all M.hasS = true) := fun q => M.all_next hlt I.out q
      have HN : Hid (M.hasS ss[k] = false → o = false) := AN.out k hlt
      have HE : Hid (M.hasS ss[k] = (decide (ss[k].1 ≤ ss[k].2.1) || ss[k].2.2)) := rfl
      clear hc0 c0 c1 c2 AN AY I
      generalize M.hasS ss[k] = hs at *
      generalize ss[k].1 = lo at *
      generalize ss[k].2.1 = hi at *
      generalize ss[k].2.2 = nl at *
      by_cases hg : hi < lo
      · have q : decide (hi < lo) = true := decide_eq_true hg
        cases nl with
        | true =>
          have E := hide (NX.out (by rw [HE.out]; simp))
          clear hg NX HN HE
          go_wp2
          go_quiet (fail)
          go_wp2
          go_roundw
          case rel => exact ⟨k + 1, by omega, by go_num, E, below_drew hbl _ hbl.size⟩
          case measure => simp [intOf]; omega
        | false =>
          have E := hide (HN.out (by rw [HE.out, decide_eq_false (by omega)]; rfl))
          clear hg NX HN HE
          go_wp2
          go_quiet (fail)
          go_wp2
          go_ret
          exact ⟨ret_bool E.out.symm, below_drew hbl _ hbl.size⟩
      · have q : decide (hi < lo) = false := decide_eq_false hg
        have E := hide (NX.out (by rw [HE.out, decide_eq_true (by omega)]; rfl))
        clear hg NX HN HE
        go_wp2
        go_quiet (fail)
        go_wp2
        go_roundw
        case rel => exact ⟨k + 1, by omega, by go_num, E, below_drew hbl _ hbl.size⟩
        case measure => simp [intOf]; omega
    · have E := hide (AY.out k (by omega) I.out)
      go_wp2
      go_ret
      exact ⟨ret_bool E.out.symm, hbl⟩

theorem M.sp_hit {l : List M.Sp} {i : Nat} {c : Int} (h8 : l.length ≤ 8) (hi : i < l.length) (hc : M.sp1F l[i] = c) (h0 : c ≠ 0) (hj : ∀ j (h : j < l.length), j < i → M.sp1F l[j] = 0) : M.spF l = c := by
  unfold M.spF
  rw [if_neg (by omega), M.first_hit (p := fun i => !decide (M.sp1F (l.getD i (0, 0, false)) = 0)) (k := i) (by rw [M.getD_at hi, hc]; simp [h0]) (fun j hji => by rw [M.getD_at (show j < l.length by omega), hj j (by omega) hji]; rfl) hi]
  simp only
  rw [M.getD_at hi]; exact hc

set_option maxHeartbeats 4000000 in
theorem rspans_any (a : Option Addr) (ss : List M.Sp) (cap : Nat) (w : World) (h : RdS w a ss) :
    Calls Tryz.prog 17 #[.slice a ss.length cap] w fun e w' => e = .returned (.int .i64 (M.spF ss)) ∧ Below w.heap.size w w' := by
  have hm : ss.length ≤ 9223372036854775807 := h.1
  have HR := hide h.2
  clear h
  by_cases h8 : 8 < ss.length
  · have E : Hid (M.spF ss = 4) := by unfold Hid M.spF; rw [if_pos h8]
    have hd : decide ((8 : Int) < (ss.length : Int)) = true := decide_eq_true (by omega)
    clear h8
    generalize M.spF ss = o at *
    go_enter Tryz.func17, Tryz.ntmps17
    go_wp2
    go_ret
    exact ⟨ret_int E.out.symm, Below.refl _ _⟩
  · have hd : decide ((8 : Int) < (ss.length : Int)) = false := decide_eq_false (by omega)
    have SH : Hid (∀ i c (hi : i < ss.length), M.sp1F ss[i] = c → c ≠ 0 → (∀ j (h : j < ss.length), j < i → M.sp1F ss[j] = 0) → M.spF ss = c) := fun i c hi hc h0 hj => M.sp_hit (by omega) hi hc h0 hj
    have SM : Hid ((∀ j (h : j < ss.length), M.sp1F ss[j] = 0) → M.spF ss = 0) := fun hj => M.sp_ok (by omega) fun s hs => by
      obtain ⟨i, hi, rfl⟩ := List.getElem_of_mem hs
      exact hj i hi
    have CC := hide rcell_any
    generalize M.spF ss = o at *
    go_enter Tryz.func17, Tryz.ntmps17
    go_wp2
    go_loopw [3] (fun i wr => ∃ k : Nat, k ≤ ss.length ∧ i = .int .i64 k ∧ Hid (∀ j (h : j < ss.length), j < k → M.sp1F ss[j] = 0) ∧ Below w.heap.size w wr) (fun i _ => ss.length - (intOf i).toNat)
    case atStart => exact ⟨0, Nat.zero_le _, rfl, fun j _ h => by omega, Below.refl _ _⟩
    case round =>
      obtain ⟨k, hk, rfl, I, hbl⟩ := hrel
      by_cases hlt : k < ss.length
      · obtain ⟨b, off, rfl, hb, hc0⟩ := HR.out (by intro e; subst e; simp at hlt)
        obtain ⟨c0, c1, c2⟩ := RdS.at hc0 k hlt
        have s0 := (hbl.cell (p := ⟨b, off + k * 3, none⟩) hb).trans c0
        have s1 := (hbl.cell (p := ⟨b, off + k * 3 + 1, none⟩) hb).trans c1
        have s2 := (hbl.cell (p := ⟨b, off + k * 3 + 2, none⟩) hb).trans c2
        have NX : Hid (M.sp1F ss[k] = 0 → ∀ j (h : j < ss.length), j < k + 1 → M.sp1F ss[j] = 0) := fun q j hj hjk => by
          by_cases e : j = k
          · subst e; exact q
          · exact I.out j hj (by omega)
        have HN : Hid (∀ c, M.sp1F ss[k] = c → c ≠ 0 → o = c) := fun c h1 h2 => SH.out k c hlt h1 h2 I.out
        have HE : Hid (M.sp1F ss[k] = if M.outI ss[k].1 = true ∨ M.outI ss[k].2.1 = true then 1 else if (decide (ss[k].1 ≤ ss[k].2.1) || ss[k].2.2) = false then 5 else 0) := rfl
        clear hc0 c0 c1 c2 SH SM I
        generalize M.sp1F ss[k] = hs at *
        generalize ss[k].1 = lo at *
        generalize ss[k].2.1 = hi at *
        generalize ss[k].2.2 = nl at *
        cases z0 : M.outI lo with
        | true =>
          have E := hide (HN.out 1 (HE.out.trans (by simp [z0])) (by decide))
          clear NX HN HE
          go_wp2_with (go_at_call 29; refine (CC.out _ _).mono ?_; rintro e w1 ⟨rfl, rfl⟩)
          go_ret
          exact ⟨ret_int E.out.symm, hbl⟩
        | false =>
          cases z1 : M.outI hi with
          | true =>
            have E := hide (HN.out 1 (HE.out.trans (by simp [z1])) (by decide))
            clear NX HN HE
            go_wp2_with (go_at_call 29; refine (CC.out _ _).mono ?_; rintro e w1 ⟨rfl, rfl⟩)
            go_ret
            exact ⟨ret_int E.out.symm, hbl⟩
          | false =>
            by_cases hg : hi < lo
            · have q : decide (hi < lo) = true := decide_eq_true hg
              cases nl with
              | true =>
                have E := hide (NX.out (HE.out.trans (by simp [z0, z1])))
                clear hg NX HN HE
                go_wp2_with (go_at_call 29; refine (CC.out _ _).mono ?_; rintro e w1 ⟨rfl, rfl⟩)
                go_quiet (fail)
                go_wp2
                go_roundw
                case rel => exact ⟨k + 1, by omega, by go_num, E, below_drew hbl _ hbl.size⟩
                case measure => simp [intOf]; omega
              | false =>
                have E := hide (HN.out 5 (HE.out.trans (by simp [z0, z1]; omega)) (by decide))
                clear hg NX HN HE
                go_wp2_with (go_at_call 29; refine (CC.out _ _).mono ?_; rintro e w1 ⟨rfl, rfl⟩)
                go_quiet (fail)
                go_wp2
                go_ret
                exact ⟨ret_int E.out.symm, below_drew hbl _ hbl.size⟩
            · have q : decide (hi < lo) = false := decide_eq_false hg
              have E := hide (NX.out (HE.out.trans (by simp [z0, z1]; omega)))
              clear hg NX HN HE
              go_wp2_with (go_at_call 29; refine (CC.out _ _).mono ?_; rintro e w1 ⟨rfl, rfl⟩)
              go_quiet (fail)
              go_wp2
              go_roundw
              case rel => exact ⟨k + 1, by omega, by go_num, E, below_drew hbl _ hbl.size⟩
              case measure => simp [intOf]; omega
      · have E := hide (SM.out fun j hj => I.out j hj (by omega))
        go_wp2
        go_ret
        exact ⟨ret_int E.out.symm, hbl⟩

theorem M.pick_take {ss : List M.Sp} {k : Nat} (h : k < ss.length) : M.pick (ss.take (k + 1)) = M.pick (ss.take k) ++ [M.pickC ss[k]] := by
  unfold M.pick
  rw [List.take_succ_eq_append_getElem h, List.map_append]; rfl
theorem M.pick_len (ss : List M.Sp) (k : Nat) : (M.pick (ss.take k)).length ≤ k := by unfold M.pick; rw [List.length_map, List.length_take]; omega

set_option maxHeartbeats 4000000 in
theorem rpick_any (a : Option Addr) (ss : List M.Sp) (cap : Nat) (w : World) (h : RdS w a ss) (h8 : ss.length ≤ 8) :
    Calls Tryz.prog 18 #[.slice a ss.length cap] w fun e w' => ∃ ag cg, e = .returned (.slice ag (M.pick ss).length cg) ∧ Rd w' ag (M.pick ss) ∧ Below w.heap.size w w' := by
  have hm : ss.length ≤ 9223372036854775807 := h.1
  have HR := hide h.2
  obtain ⟨i0, hi, hz0, hz1, hz2⟩ := info_parts info3
  have I0 := hide hi
  have PE : Hid (∀ k, ss.length ≤ k → M.pick ss = M.pick (ss.take k)) := fun k hk => by rw [List.take_of_length_le hk]
  clear h hi
  generalize M.pick ss = V at *
  go_enter Tryz.func18, Tryz.ntmps18
  go_wp2
  go_loopw [3, 4] (fun v i wr => ∃ k : Nat, k ≤ ss.length ∧ i = .int .i64 k ∧ wr.ownsRow w.heap.size 3 1 v (M.pick (ss.take k)).length ((M.pick (ss.take k)).map (Value.int .i64)) ∧ Below w.heap.size w wr) (fun _ i _ => ss.length - (intOf i).toNat)
  case atStart => exact ⟨0, Nat.zero_le _, rfl, World.ownsRow_nil _ _ _ _, Below.refl _ _⟩
  case round =>
    obtain ⟨k, hk, rfl, hown, hbl⟩ := hrel
    obtain ⟨va, vc, rfl, RV, _⟩ := own_rd hown
    have HO := hide hown
    have HV := hide RV
    have LL := M.pick_len ss k
    clear hown RV
    by_cases hlt : k < ss.length
    · obtain ⟨b, off, rfl, hb, hc0⟩ := HR.out (by intro e; subst e; simp at hlt)
      obtain ⟨c0, c1, c2⟩ := RdS.at hc0 k hlt
      have s0 := (hbl.cell (p := ⟨b, off + k * 3, none⟩) hb).trans c0
      have s1 := (hbl.cell (p := ⟨b, off + k * 3 + 1, none⟩) hb).trans c1
      have NX := hide (M.pick_take hlt)
      have PC : Hid (M.pickC ss[k] = if ss[k].1 ≤ ss[k].2.1 then ss[k].1 else M.nilI) := rfl
      have kw4 := hbl.size
      clear hc0 c0 c1 c2
      generalize M.pickC ss[k] = pc at *
      generalize ss[k].1 = lo at *
      generalize ss[k].2.1 = hi at *
      generalize M.pick (ss.take k) = L at *
      by_cases hg : lo ≤ hi
      · have q : decide (lo ≤ hi) = true := decide_eq_true hg
        have E : Hid (pc = lo) := by unfold Hid; rw [PC.out, if_pos hg]
        clear hg PC
        go_wp2
        go_quiet (fail)
        have KD : Hid (∀ q, (wr.drewN q).ownsRow w.heap.size 3 1 (.slice va L.length vc) L.length (L.map (Value.int .i64))) := fun q => own_up HO.out (below_drew (Below.refl _ _) q (Nat.le_refl _))
        go_wp2_with (at_builtin; refine wpList_append_lies _ rfl (.tmp 22) (.tmp 28) 23 rfl w.heap.size 3 i0 (.int .i64 0) 1 8 Tryz.underlying23 I0.out hz0 hz1 hz2 rfl (by omega) (.slice va L.length vc) L.length (L.map (Value.int .i64)) rfl ((KD.out _).alloc _) ⟨wr.heap.size, 0, none⟩ 1 1 [.int .i64 lo] rfl rfl (World.news_of_block (heap_alloc_new _ _)) (by simp [Value.oneCell']) (by omega) (by unfold maxLen; omega) (by omega) (by simp; omega) (wr.heap.size + 1) (by simp) ?_)
        intro g cap w5 hov5 hgrow hat hlt5
        have hb5 : Below w.heap.size w w5 := ((below_drew hbl _ hbl.size).alloc (by simp; omega) _).grown hgrow (by simp; omega) (fun k hk => (HO.out.lt k hk).1)
        have HO5 : Hid (w5.ownsRow w.heap.size 3 1 (.slice (some ⟨g, 0, none⟩) (L.length + 1) cap) (M.pick (ss.take (k + 1))).length ((M.pick (ss.take (k + 1))).map (Value.int .i64))) := by
          unfold Hid; rw [NX.out, E.out, List.map_append, List.length_append]; exact hov5
        clear hov5 hgrow hat
        go_wp2
        go_roundw
        case rel => exact ⟨k + 1, by omega, by go_num, HO5.out, hb5⟩
        case measure => simp [intOf]; omega
      · have q : decide (lo ≤ hi) = false := decide_eq_false hg
        have E : Hid (pc = -1125899906842624) := by unfold Hid; rw [PC.out, if_neg hg]; rfl
        clear hg PC
        go_wp2
        go_quiet (fail)
        have KD : Hid (∀ q, (wr.drewN q).ownsRow w.heap.size 3 1 (.slice va L.length vc) L.length (L.map (Value.int .i64))) := fun q => own_up HO.out (below_drew (Below.refl _ _) q (Nat.le_refl _))
        go_wp2_with (at_builtin; refine wpList_append_lies _ rfl (.tmp 30) (.tmp 31) 23 rfl w.heap.size 3 i0 (.int .i64 0) 1 8 Tryz.underlying23 I0.out hz0 hz1 hz2 rfl (by omega) (.slice va L.length vc) L.length (L.map (Value.int .i64)) rfl ((KD.out _).alloc _) ⟨wr.heap.size, 0, none⟩ 1 1 [.int .i64 (-1125899906842624)] rfl rfl (World.news_of_block (heap_alloc_new _ _)) (by simp [Value.oneCell']) (by omega) (by unfold maxLen; omega) (by omega) (by simp; omega) (wr.heap.size + 1) (by simp) ?_)
        intro g cap w5 hov5 hgrow hat hlt5
        have hb5 : Below w.heap.size w w5 := ((below_drew hbl _ hbl.size).alloc (by simp; omega) _).grown hgrow (by simp; omega) (fun k hk => (HO.out.lt k hk).1)
        have HO5 : Hid (w5.ownsRow w.heap.size 3 1 (.slice (some ⟨g, 0, none⟩) (L.length + 1) cap) (M.pick (ss.take (k + 1))).length ((M.pick (ss.take (k + 1))).map (Value.int .i64))) := by
          unfold Hid; rw [NX.out, E.out, List.map_append, List.length_append]; exact hov5
        clear hov5 hgrow hat
        go_wp2
        go_roundw
        case rel => exact ⟨k + 1, by omega, by go_num, HO5.out, hb5⟩
        case measure => simp [intOf]; omega
    · have E := hide (PE.out k (by omega))
      generalize M.pick (ss.take k) = L at *
      go_wp2
      go_ret
      exact ⟨va, vc, by rw [E.out]; rfl, by rw [E.out]; exact HV.out, hbl⟩

end Go.Proofs.YtandimbpealclacGreatDoor
