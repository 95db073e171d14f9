/-
  Several texts as one: ShName, ShCnt.
-/
import Derived.Test.YtiggkjkjfnlfkaaGreatDoorRunS19
import Derived.Lib.ConvBytes
import Derived.Deep.Cut
import Derived.Deep.CutRange
import Derived.Test.YtiggkjkjfnlfkaaGreatDoorRunS20
import Derived.Test.YtiggkjkjfnlfkaaGreatDoorRunS2
import Derived.RegionTactic
import Derived.Deep.RegionWith
namespace Go.Proofs.YtiggkjkjfnlfkaaGreatDoor
open Go.ChangeShapes Go.WideShapes Go.ChangeAt Go.RowKit Go.Lib Go.Maps
set_option linter.unusedVariables false
def M.nameB (n : List Nat) : Bool := decide (n ≠ []) && (decide (n.length ≤ 12) && n.all M.letB)
theorem M.call_is (c : M.Ca) : M.callF c = if c.what < 1 ∨ 4 < c.what ∨ M.timeB c.ses = false ∨ M.timeB c.seq = false ∨ c.seq = 0 then 1 else if M.nameB c.name then 0 else 2 := by
  unfold M.callF M.nameB
  split
  · rfl
  · by_cases h1 : c.name = []
    · rw [if_pos (.inl h1)]; simp [h1]
    · by_cases h2 : 12 < c.name.length
      · rw [if_pos (.inr h2)]
        have : ¬ (c.name.length ≤ 12) := by omega
        simp [this]
      · rw [if_neg (by rintro (z | z); exact h1 z; exact h2 z)]
        have : c.name.length ≤ 12 := by omega
        simp [h1, this]
theorem byStr_size (n : List Nat) : (byStr n).size = n.length := by
  have := congrArg List.length (byStr_list n)
  simpa using this
theorem byStr_tl (n : List Nat) : (byStr n).toList = n.map UInt8.ofNat := by rw [ByteArray.toList_eq, byStr_list]
theorem byStr_at {n : List Nat} (hb : isB n) {i : Nat} (hi : i < n.length) : (((byStr n).data.toList.getD i 0).toNat : Nat) = n.getD i 0 := by
  rw [byStr_list]
  have : n.getD i 0 < 256 := by
    rw [List.getD, List.getElem?_eq_getElem hi]
    exact hb _ (List.getElem_mem hi)
  simp only [List.getD, List.getElem?_map, List.getElem?_eq_getElem hi, Option.map_some, Option.getD_some] at this ⊢
  simp
  omega
theorem below_bytes (w : World) (e : TypeId) (s : ByteArray) : Below w.heap.size w (bytesWorld w e s) := ⟨rfl, rfl, rfl, by rw [bytesWorld_size]; omega, fun q hq => bytesWorld_at_old w e s q hq⟩

set_option maxHeartbeats 8000000 in
set_option maxRecDepth 10000 in
theorem sh_isName (n : List Nat) (hb : isB n) (hl : n.length ≤ 9223372036854775807) (W : World) : Calls Tryz.prog 111 #[.string (byStr n)] W fun e w' => e = .returned (.bool (M.nameB n)) ∧ Below W.heap.size W w' := by
  have sz := byStr_size n
  by_cases h1 : n = []
  · have E : Hid (M.nameB n = false) := by unfold Hid M.nameB; simp [h1]
    have q : (byStr n).toList.isEmpty = true := by rw [byStr_tl, h1]; rfl
    have q' : (byStr n).toList = [] := by rw [byStr_tl, h1]; rfl
    rw [E.out]
    clear sz h1 hb
    generalize byStr n = s at *
    go_enter Tryz.func111, Tryz.ntmps111
    go_wp2
    go_ret
    exact ⟨rfl, Below.refl _ _⟩
  have q' : ¬ (byStr n).toList = [] := by
    rw [byStr_tl]
    intro e
    exact h1 (List.map_eq_nil_iff.1 e)
  have q : (byStr n).toList.isEmpty = false := by
    rw [Bool.eq_false_iff, ne_eq, List.isEmpty_iff]
    exact q'
  by_cases h2 : 12 < n.length
  · have E : Hid (M.nameB n = false) := by
      unfold Hid M.nameB
      have : ¬ (n.length ≤ 12) := by omega
      simp [this]
    have g : decide ((12 : Int) < (n.length : Int)) = true := decide_eq_true (by omega)
    have g' : decide (12 < n.length) = true := decide_eq_true (by omega)
    rw [E.out]
    clear h1 hb
    generalize byStr n = s at *
    go_enter Tryz.func111, Tryz.ntmps111
    go_wp2
    go_ret
    exact ⟨rfl, Below.refl _ _⟩
  have g : decide ((12 : Int) < (n.length : Int)) = false := decide_eq_false (by omega)
  have g' : decide (12 < n.length) = false := decide_eq_false (by omega)
  have l12 : n.length ≤ 12 := by omega
  have EB : Hid (M.nameB n = n.all M.letB) := by
    unfold Hid M.nameB
    simp [h1, l12]
  have AT := hide (fun i (hi : i < n.length) => byStr_at hb hi)
  have CV := Lib.run_convert_string_bytes (P := Tryz.prog) W 9 34 5 (byStr n) Tryz.underlying9 Tryz.underlying34 Tryz.underlying5
  rw [sz] at CV
  have K := hide (below_bytes W 5 (byStr n))
  have CE : Hid (∀ i, i < n.length → (bytesWorld W 5 (byStr n)).cell? ⟨W.heap.size, i, none⟩ = some (.int .u8 (n.getD i 0 : Nat))) := fun i hi => by
    rw [bytesWorld_cell W 5 (byStr n) i (by rw [sz]; exact hi), AT.out i hi]
  generalize grownCap W n.length 0 5 = cp at *
  generalize bytesWorld W 5 (byStr n) = W1 at *
  clear AT h1 h2 hb
  generalize byStr n = s at *
  go_enter Tryz.func111, Tryz.ntmps111
  go_wp2
  go_loopw [15] (fun i wr => ∃ k : Nat, k ≤ n.length ∧ i = .int .i64 k ∧ Hid ((n.take k).all M.letB = true) ∧ Hid (wr = W1)) (fun i _ => n.length - (intOf i).toNat)
  case atStart => exact ⟨0, Nat.zero_le _, rfl, rfl, rfl⟩
  case round =>
    obtain ⟨k, hk, rfl, OK, EW⟩ := hrel
    have ew := EW.out
    subst ew
    by_cases hlt : k < n.length
    · have kz : (k : Int) < (n.length : Int) := by omega
      have c0 := CE.out k hlt
      have TK : Hid ((n.take (k + 1)).all M.letB = M.letB (n.getD k 0)) := by
        unfold Hid
        rw [List.take_succ_eq_append_getElem hlt, List.all_append, OK.out]
        simp [List.getD, hlt]
      have AL : Hid (M.letB (n.getD k 0) = false → n.all M.letB = false) := fun z => by
        rw [List.all_eq_false]
        exact ⟨n.getD k 0, by rw [show n.getD k 0 = n[k] by simp [List.getD, hlt]]; exact List.getElem_mem hlt, by rw [z]; decide⟩
      clear CE OK CV
      generalize n.getD k 0 = x at *
      by_cases bad : M.letB x = true
      · have b2 : 97 ≤ x ∧ x ≤ 122 := by unfold M.letB at bad; simpa using bad
        have t1 : decide ((x : Int) < 97) = false := decide_eq_false (by omega)
        have t2 : decide ((122 : Int) < (x : Int)) = false := decide_eq_false (by omega)
        have t3 : decide (x < 97) = false := decide_eq_false (by omega)
        have t4 : decide (122 < x) = false := decide_eq_false (by omega)
        have BD := hide bad
        clear bad b2
        go_wp2
        go_roundw
        case rel => exact ⟨k + 1, by omega, by go_num, (show Hid _ by unfold Hid; rw [TK.out]; exact BD.out), trivial⟩
        case measure => simp [intOf]; omega
      · have bd : M.letB x = false := by simpa using bad
        have E : Hid (M.nameB n = false) := by unfold Hid; rw [EB.out, AL.out bd]
        have ways : (decide ((x : Int) < 97) = true ∧ decide (x < 97) = true) ∨ (decide ((x : Int) < 97) = false ∧ decide (x < 97) = false ∧ decide ((122 : Int) < (x : Int)) = true ∧ decide (122 < x) = true) := by
          unfold M.letB at bd
          simp only [decide_eq_true_iff, decide_eq_false_iff_not, Bool.and_eq_false_iff] at bd ⊢
          omega
        clear bad bd TK AL EB
        rcases ways with ⟨t1, t2⟩ | ⟨t1, t2, t3, t4⟩
        all_goals (
          go_wp2
          go_ret
          exact ⟨by rw [E.out]; rfl, K.out⟩)
    · have ek : k = n.length := by omega
      have kz : ¬ ((k : Int) < (n.length : Int)) := by omega
      have E : Hid (M.nameB n = true) := by
        unfold Hid
        rw [EB.out, ← OK.out, ek, List.take_length]
      clear ek CE OK EB CV
      go_wp2
      go_ret
      exact ⟨by rw [E.out]; rfl, K.out⟩

set_option maxHeartbeats 8000000 in
theorem sh_check (c : M.Ca) (a : Option Addr) (cap : Nat) (hb : isB c.name) (hl : c.name.length ≤ 9223372036854775807) (W : World) :
    Calls Tryz.prog 80 #[caV c a cap] W fun e w' => e = .returned (errV (M.callF c)) ∧ Below W.heap.size W w' := by
  rw [M.call_is]
  unfold caV
  obtain ⟨W1, hW1⟩ : ∃ X, X = W.alloc (.cells #[.int .i64 c.what, .int .i64 c.ses, .int .i64 c.seq, .string (byStr c.name), .int .i64 c.num, .int .i64 c.share, .slice a c.bys.length cap] 36) := ⟨_, rfl⟩
  have b1 : Hid (Below W.heap.size W W1) := by unfold Hid; rw [hW1]; exact (Below.refl _ _).alloc (Nat.le_refl _) _
  have bx := bx_new W [.int .i64 c.what, .int .i64 c.ses, .int .i64 c.seq, .string (byStr c.name), .int .i64 c.num, .int .i64 c.share, .slice a c.bys.length cap] 36
  have c0 := bx.cell 0 _ rfl
  have c1 := bx.cell 1 _ rfl
  have c2 := bx.cell 2 _ rfl
  have c3 := bx.cell 3 _ rfl
  clear bx
  rw [← hW1] at c0 c1 c2 c3
  have NM := hide (sh_isName c.name hb hl W1)
  by_cases bad : c.what < 1 ∨ 4 < c.what ∨ M.timeB c.ses = false ∨ M.timeB c.seq = false ∨ c.seq = 0
  · rw [if_pos bad, err_some (show (1 : Int) ≠ 0 by decide)]
    have ways : decide (c.what < 1) = true ∨ (decide (c.what < 1) = false ∧ decide (4 < c.what) = true) ∨ (decide (c.what < 1) = false ∧ decide (4 < c.what) = false ∧ decide (c.ses < 0) = true) ∨ (decide (c.what < 1) = false ∧ decide (4 < c.what) = false ∧ decide (c.ses < 0) = false ∧ decide (1000000 < c.ses) = true) ∨ (decide (c.what < 1) = false ∧ decide (4 < c.what) = false ∧ decide (c.ses < 0) = false ∧ decide (1000000 < c.ses) = false ∧ decide (c.seq < 1) = true) ∨ (decide (c.what < 1) = false ∧ decide (4 < c.what) = false ∧ decide (c.ses < 0) = false ∧ decide (1000000 < c.ses) = false ∧ decide (c.seq < 1) = false ∧ decide (1000000 < c.seq) = true) := by
      unfold M.timeB at bad
      simp only [decide_eq_true_iff, decide_eq_false_iff_not, Bool.and_eq_false_iff] at bad ⊢
      omega
    clear bad NM hb hl
    rcases ways with g1 | ⟨g1, g2⟩ | ⟨g1, g2, g3⟩ | ⟨g1, g2, g3, g4⟩ | ⟨g1, g2, g3, g4, g5⟩ | ⟨g1, g2, g3, g4, g5, g6⟩
    all_goals (
      go_enter Tryz.func80, Tryz.ntmps80
      go_upto_region 1 with fail
      rw [← hW1]
      clear hW1
      go_wp2
      go_ret
      exact ⟨rfl, b1.out⟩)
  rw [if_neg bad]
  have ok : c.what ≥ 1 ∧ c.what ≤ 4 ∧ 0 ≤ c.ses ∧ c.ses ≤ 1000000 ∧ 1 ≤ c.seq ∧ c.seq ≤ 1000000 := by
    unfold M.timeB at bad
    simp only [Bool.and_eq_false_iff, decide_eq_false_iff_not] at bad
    omega
  have g1 : decide (c.what < 1) = false := decide_eq_false (by omega)
  have g2 : decide (4 < c.what) = false := decide_eq_false (by omega)
  have g3 : decide (c.ses < 0) = false := decide_eq_false (by omega)
  have g4 : decide (1000000 < c.ses) = false := decide_eq_false (by omega)
  have g5 : decide (c.seq < 1) = false := decide_eq_false (by omega)
  have g6 : decide (1000000 < c.seq) = false := decide_eq_false (by omega)
  clear bad ok hb hl
  cases nb : M.nameB c.name with
  | false =>
    rw [nb] at NM
    rw [if_neg (by decide), err_some (show (2 : Int) ≠ 0 by decide)]
    clear nb
    go_enter Tryz.func80, Tryz.ntmps80
    go_upto_region 1 with fail
    rw [← hW1]
    clear hW1
    go_wp2_with (go_at_call 111; refine NM.out.mono ?_; rintro e w1 ⟨rfl, h1⟩; have H1 := hide (below_on b1.out h1); clear h1)
    go_ret
    exact ⟨rfl, H1.out⟩
  | true =>
    rw [nb] at NM
    rw [if_pos rfl, err_nil rfl]
    clear nb
    go_enter Tryz.func80, Tryz.ntmps80
    go_upto_region 1 with fail
    rw [← hW1]
    clear hW1
    go_wp2_with (go_at_call 111; refine NM.out.mono ?_; rintro e w1 ⟨rfl, h1⟩; have H1 := hide (below_on b1.out h1); clear h1)
    go_ret
    exact ⟨rfl, H1.out⟩
theorem err_ways (b : Int) : errV b = .nilIface ∨ ∃ x, errV b = .iface 90 (.int .i64 x) := by
  by_cases h : b = 0
  · exact .inl (err_nil h)
  · exact .inr ⟨b, err_some h⟩
theorem zeroL (w : World) : (zeroValue 87).run Tryz.prog w = .ok (.agg #[.int .i64 0, .int .i64 0, .int .i64 0, .nilIface]) w := Tryz.zeroValue87 w
theorem SV.lookL {W : World} {f : Nat} {T : Nat → Nat} {S : M.Sh} {mm ml : Nat} {D E : DataW Value} {kb : Nat → Nat} {mb : List Nat → Nat} {va : List Nat → Option Addr} {vc : List Nat → Nat} {G : Nat → Gr} (h : SV W f T S mm ml D E kb mb va vc G) {ses : Int} (hs : 0 ≤ ses ∧ ses ≤ 1000000) : (Instr.lookup 77 (.map (some ml)) (.int .i64 ses) false).run Tryz.prog W = .ok (lastV (M.was S ses)) W := by
  obtain ⟨m, lo⟩ := h.lo
  obtain ⟨v, ps, hrun, hv⟩ := lo.lookup keyI Tryz.underlying77 (zeroL W) (zd := .held (lastV dn0)) (zp := []) rfl (keyOf_int_mk (a := ses) Tryz.underlying3 (WalkArith.wf_i64 (by omega)))
  have e : E.atKey (.int .i64 ses) (.held (lastV dn0)) = .held (lastV (M.was S ses)) := by
    unfold M.was
    cases hl : M.lastN S ses with
    | none => exact atKey_of_not_has (h.ln ses hl) _
    | some k => exact h.la ses k hl _
  rw [e] at hv
  unfold selfE at hv
  simp only [Option.some.injEq, Prod.mk.injEq, DataW.held.injEq] at hv
  rw [hrun, hv.1]

set_option maxHeartbeats 8000000 in
theorem sh_Counts {W : World} {f : Nat} {T : Nat → Nat} {S : M.Sh} {mm ml : Nat} {D E : DataW Value} {kb : Nat → Nat} {mb : List Nat → Nat} {va : List Nat → Option Addr} {vc : List Nat → Nat} {G : Nat → Gr} (h : SV W f T S mm ml D E kb mb va vc G) (c : M.Ca) (a : Option Addr) (cap : Nat) (hb : isB c.name) (hl : c.name.length ≤ 9223372036854775807) :
    Calls Tryz.prog 33 #[.pointer (some ⟨f, 0, none⟩), caV c a cap] W fun e w' => e = .returned (.bool (M.cntB S c)) ∧ Below W.heap.size W w' := by
  unfold caV
  obtain ⟨W1, hW1⟩ : ∃ X, X = W.alloc (.cells #[.int .i64 c.what, .int .i64 c.ses, .int .i64 c.seq, .string (byStr c.name), .int .i64 c.num, .int .i64 c.share, .slice a c.bys.length cap] 36) := ⟨_, rfl⟩
  have z1 : W1.heap.size = W.heap.size + 1 := by rw [hW1]; simp
  have b1 : Hid (Below W.heap.size W W1) := by unfold Hid; rw [hW1]; exact (Below.refl _ _).alloc (Nat.le_refl _) _
  have bx : Bx W1 W.heap.size [.int .i64 c.what, .int .i64 c.ses, .int .i64 c.seq, .string (byStr c.name), .int .i64 c.num, .int .i64 c.share, .slice a c.bys.length cap] := by rw [hW1]; exact bx_new W _ _
  have CK := hide (sh_check c a cap hb hl W1.drew)
  unfold caV at CK
  have BX := hide bx
  have c0 := bx.cell 0 _ rfl
  have c1 := bx.cell 1 _ rfl
  have c2 := bx.cell 2 _ rfl
  have c3 := bx.cell 3 _ rfl
  have c4 := bx.cell 4 _ rfl
  have c5 := bx.cell 5 _ rfl
  have c6 := bx.cell 6 _ rfl
  have SX : Hid (∀ V, Below W1.heap.size W1 V → ∀ j, V.cell? ⟨W.heap.size, j, none⟩ = W1.cell? ⟨W.heap.size, j, none⟩) := fun V hV j => hV.cell (p := ⟨W.heap.size, j, none⟩) BX.out.lt
  clear bx
  by_cases q1 : M.callF c = 0
  case neg =>
    have EB : Hid (M.cntB S c = false) := by unfold Hid M.cntB; rw [decide_eq_false q1, Bool.false_and]
    rw [EB.out]
    rw [err_some q1] at CK
    clear h hb hl EB q1 z1
    generalize M.callF c = ce at *
    generalize byStr c.name = s at *
    go_enter Tryz.func33, Tryz.ntmps33
    go_upto_region 1 with fail
    rw [← hW1]
    clear hW1
    have kd : Below W1.heap.size W1 W1.drew := (Below.refl _ W1).drew
    refine wp_region_held_drew (S := fun V => Below W1.heap.size W1 V) (by kernel_rfl) kd (fun hHeld => ?_)
    refine take_lg (i := 0) (d := some 5) (v := ?v1) rfl rfl (by kernel_rfl) (by kernel_rfl) (by kernel_rfl) (fun _ _ _ h => h) (Or.inl ⟨by rfl, ?h1⟩) (by assumption) ?r1
    case h1 => (intro V hSw; have c0 := (SX.out V hSw 0).trans c0; have c1 := (SX.out V hSw 1).trans c1; have c2 := (SX.out V hSw 2).trans c2; have c3 := (SX.out V hSw 3).trans c3; have c4 := (SX.out V hSw 4).trans c4; have c5 := (SX.out V hSw 5).trans c5; have c6 := (SX.out V hSw 6).trans c6; clear hSw; go_simp; (try with_reducible rfl))
    simp only [Act.put, List.setIfInBounds_toArray, List.set_cons_zero, List.set_cons_succ]
    refine wpAnyH_ready (rs := [1]) (by kernel_rfl) (by simp) ?_
    refine AllReadyH.cons rfl (fun K hK => ?_) AllReadyH.nil
    go_simp
    go_at_call 80
    refine CK.out.mono ?_
    rintro e w2 ⟨rfl, h2⟩
    have k2 : Below W1.heap.size W1 w2 := below_on kd h2
    clear h2 hHeld
    try go_wp2_with fail
    refine hK.out _ _ k2 (fun hHeld2 => ?_)
    clear hK K hHeld2
    try simp only [Act.put, List.setIfInBounds_toArray, List.set_cons_zero, List.set_cons_succ]
    refine take_lg (i := 2) (d := some 7) (v := ?v2) rfl rfl (by kernel_rfl) (by kernel_rfl) (by kernel_rfl) (fun _ _ _ h => h) (Or.inl ⟨by rfl, ?h2⟩) (by assumption) ?r2
    case h2 => (intro V hSw; have c0 := (SX.out V hSw 0).trans c0; have c1 := (SX.out V hSw 1).trans c1; have c2 := (SX.out V hSw 2).trans c2; have c3 := (SX.out V hSw 3).trans c3; have c4 := (SX.out V hSw 4).trans c4; have c5 := (SX.out V hSw 5).trans c5; have c6 := (SX.out V hSw 6).trans c6; clear hSw; go_simp; (try with_reducible rfl))
    simp only [Act.put, List.setIfInBounds_toArray, List.set_cons_zero, List.set_cons_succ]
    refine take_lg (i := 3) (d := some 8) (v := ?v3) rfl rfl (by kernel_rfl) (by kernel_rfl) (by kernel_rfl) (fun _ _ _ h => h) (Or.inl ⟨by rfl, ?h3⟩) (by assumption) ?r3
    case h3 => (intro V hSw; have c0 := (SX.out V hSw 0).trans c0; have c1 := (SX.out V hSw 1).trans c1; have c2 := (SX.out V hSw 2).trans c2; have c3 := (SX.out V hSw 3).trans c3; have c4 := (SX.out V hSw 4).trans c4; have c5 := (SX.out V hSw 5).trans c5; have c6 := (SX.out V hSw 6).trans c6; clear hSw; go_simp; (try with_reducible rfl))
    simp only [Act.put, List.setIfInBounds_toArray, List.set_cons_zero, List.set_cons_succ]
    refine take_lg (i := 4) (d := some 9) (v := undef) rfl rfl (by kernel_rfl) (by kernel_rfl) (by kernel_rfl) (fun _ _ _ h => h) (Or.inr ⟨by rfl, rfl⟩) (by assumption) ?r4
    simp only [Act.put, List.setIfInBounds_toArray, List.set_cons_zero, List.set_cons_succ]
    refine take_lg (i := 5) (d := some 10) (v := undef) rfl rfl (by kernel_rfl) (by kernel_rfl) (by kernel_rfl) (fun _ _ _ h => h) (Or.inr ⟨by rfl, rfl⟩) (by assumption) ?r5
    simp only [Act.put, List.setIfInBounds_toArray, List.set_cons_zero, List.set_cons_succ]
    refine take_lg (i := 6) (d := some 11) (v := undef) rfl rfl (by kernel_rfl) (by kernel_rfl) (by kernel_rfl) (fun _ _ _ h => h) (Or.inr ⟨by rfl, rfl⟩) (by assumption) ?r6
    simp only [Act.put, List.setIfInBounds_toArray, List.set_cons_zero, List.set_cons_succ]
    refine take_lg (i := 7) (d := some 12) (v := undef) rfl rfl (by kernel_rfl) (by kernel_rfl) (by kernel_rfl) (fun _ _ _ h => h) (Or.inr ⟨by rfl, rfl⟩) (by assumption) ?r7
    simp only [Act.put, List.setIfInBounds_toArray, List.set_cons_zero, List.set_cons_succ]
    refine take_lg (i := 8) (d := some 13) (v := undef) rfl rfl (by kernel_rfl) (by kernel_rfl) (by kernel_rfl) (fun _ _ _ h => h) (Or.inr ⟨by rfl, rfl⟩) (by assumption) ?r8
    simp only [Act.put, List.setIfInBounds_toArray, List.set_cons_zero, List.set_cons_succ]
    refine take_lg (i := 9) (d := some 14) (v := undef) rfl rfl (by kernel_rfl) (by kernel_rfl) (by kernel_rfl) (fun _ _ _ h => h) (Or.inr ⟨by rfl, rfl⟩) (by assumption) ?r9
    simp only [Act.put, List.setIfInBounds_toArray, List.set_cons_zero, List.set_cons_succ]
    refine take_lg (i := 10) (d := some 15) (v := undef) rfl rfl (by kernel_rfl) (by kernel_rfl) (by kernel_rfl) (fun _ _ _ h => h) (Or.inr ⟨by rfl, rfl⟩) (by assumption) ?r10
    simp only [Act.put, List.setIfInBounds_toArray, List.set_cons_zero, List.set_cons_succ]
    refine take_lg (i := 11) (d := some 16) (v := undef) rfl rfl (by kernel_rfl) (by kernel_rfl) (by kernel_rfl) (fun _ _ _ h => h) (Or.inr ⟨by rfl, rfl⟩) (by assumption) ?r11
    simp only [Act.put, List.setIfInBounds_toArray, List.set_cons_zero, List.set_cons_succ]
    refine take_lg (i := 12) (d := some 17) (v := undef) rfl rfl (by kernel_rfl) (by kernel_rfl) (by kernel_rfl) (fun _ _ _ h => h) (Or.inr ⟨by rfl, rfl⟩) (by assumption) ?r12
    simp only [Act.put, List.setIfInBounds_toArray, List.set_cons_zero, List.set_cons_succ]
    refine take_lg (i := 13) (d := some 18) (v := undef) rfl rfl (by kernel_rfl) (by kernel_rfl) (by kernel_rfl) (fun _ _ _ h => h) (Or.inr ⟨by rfl, rfl⟩) (by assumption) ?r13
    simp only [Act.put, List.setIfInBounds_toArray, List.set_cons_zero, List.set_cons_succ]
    refine take_lg (i := 14) (d := some 19) (v := undef) rfl rfl (by kernel_rfl) (by kernel_rfl) (by kernel_rfl) (fun _ _ _ h => h) (Or.inr ⟨by rfl, rfl⟩) (by assumption) ?r14
    simp only [Act.put, List.setIfInBounds_toArray, List.set_cons_zero, List.set_cons_succ]
    refine take_lg (i := 15) (d := some 20) (v := ?v15) rfl rfl (by kernel_rfl) (by kernel_rfl) (by kernel_rfl) (fun _ _ _ h => h) (Or.inl ⟨by rfl, ?h15⟩) (by assumption) ?r15
    case h15 => (intro V hSw; have c0 := (SX.out V hSw 0).trans c0; have c1 := (SX.out V hSw 1).trans c1; have c2 := (SX.out V hSw 2).trans c2; have c3 := (SX.out V hSw 3).trans c3; have c4 := (SX.out V hSw 4).trans c4; have c5 := (SX.out V hSw 5).trans c5; have c6 := (SX.out V hSw 6).trans c6; clear hSw; go_simp; (try with_reducible rfl))
    simp only [Act.put, List.setIfInBounds_toArray, List.set_cons_zero, List.set_cons_succ]
    refine take_lg (i := 16) (d := some 4) (v := ?v16) rfl rfl (by kernel_rfl) (by kernel_rfl) (by kernel_rfl) (fun _ _ _ h => h) (Or.inl ⟨by rfl, ?h16⟩) (by assumption) ?r16
    case h16 => (intro V hSw; have c0 := (SX.out V hSw 0).trans c0; have c1 := (SX.out V hSw 1).trans c1; have c2 := (SX.out V hSw 2).trans c2; have c3 := (SX.out V hSw 3).trans c3; have c4 := (SX.out V hSw 4).trans c4; have c5 := (SX.out V hSw 5).trans c5; have c6 := (SX.out V hSw 6).trans c6; clear hSw; go_simp; (try with_reducible rfl))
    simp only [Act.put, List.setIfInBounds_toArray, List.set_cons_zero, List.set_cons_succ]
    refine wpAnyH_done (by kernel_rfl) ?_ _
    go_wp2
    go_ret
    exact ⟨rfl, below_on b1.out k2⟩
  case pos =>
    obtain ⟨_, ses1, seq1, _⟩ := M.call_seq q1
    have EB : Hid (M.cntB S c = decide ((M.was S c.ses).seq < c.seq)) := by unfold Hid M.cntB; rw [decide_eq_true q1, Bool.true_and]
    rw [EB.out]
    rw [err_nil q1] at CK
    have fl : f < W.heap.size := h.lt
    have KP : Hid (∀ V, Below W1.heap.size W1 V → V.cell? ⟨f, 1, none⟩ = some (.map (some ml)) ∧ (Instr.lookup 77 (.map (some ml)) (.int .i64 c.ses) false).run Tryz.prog V = .ok (lastV (M.was S c.ses)) V) := fun V hw => by
      have h2 := h.below (below_on b1.out hw)
      exact ⟨h2.box.cell 1 _ rfl, h2.lookL ses1⟩
    unfold lastV at KP
    clear h hb hl EB q1 z1 ses1 seq1
    generalize (M.was S c.ses).seq = y0 at *
    generalize (M.was S c.ses).ans.num = y1 at *
    generalize (M.was S c.ses).ans.idx = y2 at *
    generalize errV (M.was S c.ses).bad = y3 at *
    generalize byStr c.name = s at *
    have FD : Hid (∀ V : World, (Instr.field 87 (.agg #[.int .i64 y0, .int .i64 y1, .int .i64 y2, y3]) 0).run Tryz.prog V = .ok (.int .i64 y0) V) := fun _ => by kernel_rfl
    go_enter Tryz.func33, Tryz.ntmps33
    go_upto_region 1 with fail
    rw [← hW1]
    clear hW1
    have kd : Below W1.heap.size W1 W1.drew := (Below.refl _ W1).drew
    refine wp_region_held_drew (S := fun V => Below W1.heap.size W1 V) (by kernel_rfl) kd (fun hHeld => ?_)
    refine take_lg (i := 0) (d := some 5) (v := ?v17) rfl rfl (by kernel_rfl) (by kernel_rfl) (by kernel_rfl) (fun _ _ _ h => h) (Or.inl ⟨by rfl, ?h17⟩) (by assumption) ?r17
    case h17 => (intro V hSw; have c0 := (SX.out V hSw 0).trans c0; have c1 := (SX.out V hSw 1).trans c1; have c2 := (SX.out V hSw 2).trans c2; have c3 := (SX.out V hSw 3).trans c3; have c4 := (SX.out V hSw 4).trans c4; have c5 := (SX.out V hSw 5).trans c5; have c6 := (SX.out V hSw 6).trans c6; obtain ⟨k1, lk⟩ := KP.out V hSw; have hfd := FD.out V; clear hSw; go_simp; (try with_reducible rfl))
    simp only [Act.put, List.setIfInBounds_toArray, List.set_cons_zero, List.set_cons_succ]
    refine wpAnyH_ready (rs := [1]) (by kernel_rfl) (by simp) ?_
    refine AllReadyH.cons rfl (fun K hK => ?_) AllReadyH.nil
    go_simp
    go_at_call 80
    refine CK.out.mono ?_
    rintro e w2 ⟨rfl, h2⟩
    have k2 : Below W1.heap.size W1 w2 := below_on kd h2
    clear h2 hHeld
    try go_wp2_with fail
    refine hK.out _ _ k2 (fun hHeld2 => ?_)
    clear hK K hHeld2
    try simp only [Act.put, List.setIfInBounds_toArray, List.set_cons_zero, List.set_cons_succ]
    refine take_lg (i := 2) (d := some 7) (v := ?v18) rfl rfl (by kernel_rfl) (by kernel_rfl) (by kernel_rfl) (fun _ _ _ h => h) (Or.inl ⟨by rfl, ?h18⟩) (by assumption) ?r18
    case h18 => (intro V hSw; have c0 := (SX.out V hSw 0).trans c0; have c1 := (SX.out V hSw 1).trans c1; have c2 := (SX.out V hSw 2).trans c2; have c3 := (SX.out V hSw 3).trans c3; have c4 := (SX.out V hSw 4).trans c4; have c5 := (SX.out V hSw 5).trans c5; have c6 := (SX.out V hSw 6).trans c6; obtain ⟨k1, lk⟩ := KP.out V hSw; have hfd := FD.out V; clear hSw; go_simp; (try with_reducible rfl))
    simp only [Act.put, List.setIfInBounds_toArray, List.set_cons_zero, List.set_cons_succ]
    refine take_lg (i := 3) (d := some 8) (v := ?v19) rfl rfl (by kernel_rfl) (by kernel_rfl) (by kernel_rfl) (fun _ _ _ h => h) (Or.inl ⟨by rfl, ?h19⟩) (by assumption) ?r19
    case h19 => (intro V hSw; have c0 := (SX.out V hSw 0).trans c0; have c1 := (SX.out V hSw 1).trans c1; have c2 := (SX.out V hSw 2).trans c2; have c3 := (SX.out V hSw 3).trans c3; have c4 := (SX.out V hSw 4).trans c4; have c5 := (SX.out V hSw 5).trans c5; have c6 := (SX.out V hSw 6).trans c6; obtain ⟨k1, lk⟩ := KP.out V hSw; have hfd := FD.out V; clear hSw; go_simp; (try with_reducible rfl))
    simp only [Act.put, List.setIfInBounds_toArray, List.set_cons_zero, List.set_cons_succ]
    refine take_lg (i := 4) (d := some 9) (v := ?v20) rfl rfl (by kernel_rfl) (by kernel_rfl) (by kernel_rfl) (fun _ _ _ h => h) (Or.inl ⟨by rfl, ?h20⟩) (by assumption) ?r20
    case h20 => (intro V hSw; have c0 := (SX.out V hSw 0).trans c0; have c1 := (SX.out V hSw 1).trans c1; have c2 := (SX.out V hSw 2).trans c2; have c3 := (SX.out V hSw 3).trans c3; have c4 := (SX.out V hSw 4).trans c4; have c5 := (SX.out V hSw 5).trans c5; have c6 := (SX.out V hSw 6).trans c6; obtain ⟨k1, lk⟩ := KP.out V hSw; have hfd := FD.out V; clear hSw; go_simp; (try with_reducible rfl))
    simp only [Act.put, List.setIfInBounds_toArray, List.set_cons_zero, List.set_cons_succ]
    refine take_lg (i := 5) (d := some 10) (v := ?v21) rfl rfl (by kernel_rfl) (by kernel_rfl) (by kernel_rfl) (fun _ _ _ h => h) (Or.inl ⟨by rfl, ?h21⟩) (by assumption) ?r21
    case h21 => (intro V hSw; have c0 := (SX.out V hSw 0).trans c0; have c1 := (SX.out V hSw 1).trans c1; have c2 := (SX.out V hSw 2).trans c2; have c3 := (SX.out V hSw 3).trans c3; have c4 := (SX.out V hSw 4).trans c4; have c5 := (SX.out V hSw 5).trans c5; have c6 := (SX.out V hSw 6).trans c6; obtain ⟨k1, lk⟩ := KP.out V hSw; have hfd := FD.out V; clear hSw; go_simp; (try with_reducible rfl))
    simp only [Act.put, List.setIfInBounds_toArray, List.set_cons_zero, List.set_cons_succ]
    refine take_lg (i := 6) (d := some 11) (v := ?v22) rfl rfl (by kernel_rfl) (by kernel_rfl) (by kernel_rfl) (fun _ _ _ h => h) (Or.inl ⟨by rfl, ?h22⟩) (by assumption) ?r22
    case h22 => (intro V hSw; have c0 := (SX.out V hSw 0).trans c0; have c1 := (SX.out V hSw 1).trans c1; have c2 := (SX.out V hSw 2).trans c2; have c3 := (SX.out V hSw 3).trans c3; have c4 := (SX.out V hSw 4).trans c4; have c5 := (SX.out V hSw 5).trans c5; have c6 := (SX.out V hSw 6).trans c6; obtain ⟨k1, lk⟩ := KP.out V hSw; have hfd := FD.out V; clear hSw; go_simp; (try with_reducible rfl))
    simp only [Act.put, List.setIfInBounds_toArray, List.set_cons_zero, List.set_cons_succ]
    refine take_lg (i := 7) (d := some 12) (v := ?v23) rfl rfl (by kernel_rfl) (by kernel_rfl) (by kernel_rfl) (fun _ _ _ h => h) (Or.inl ⟨by rfl, ?h23⟩) (by assumption) ?r23
    case h23 => (intro V hSw; have c0 := (SX.out V hSw 0).trans c0; have c1 := (SX.out V hSw 1).trans c1; have c2 := (SX.out V hSw 2).trans c2; have c3 := (SX.out V hSw 3).trans c3; have c4 := (SX.out V hSw 4).trans c4; have c5 := (SX.out V hSw 5).trans c5; have c6 := (SX.out V hSw 6).trans c6; obtain ⟨k1, lk⟩ := KP.out V hSw; have hfd := FD.out V; clear hSw; go_simp; (try with_reducible rfl))
    simp only [Act.put, List.setIfInBounds_toArray, List.set_cons_zero, List.set_cons_succ]
    refine take_lg (i := 8) (d := some 13) (v := ?v24) rfl rfl (by kernel_rfl) (by kernel_rfl) (by kernel_rfl) (fun _ _ _ h => h) (Or.inl ⟨by rfl, ?h24⟩) (by assumption) ?r24
    case h24 => (intro V hSw; have c0 := (SX.out V hSw 0).trans c0; have c1 := (SX.out V hSw 1).trans c1; have c2 := (SX.out V hSw 2).trans c2; have c3 := (SX.out V hSw 3).trans c3; have c4 := (SX.out V hSw 4).trans c4; have c5 := (SX.out V hSw 5).trans c5; have c6 := (SX.out V hSw 6).trans c6; obtain ⟨k1, lk⟩ := KP.out V hSw; have hfd := FD.out V; clear hSw; go_simp; (try with_reducible rfl))
    simp only [Act.put, List.setIfInBounds_toArray, List.set_cons_zero, List.set_cons_succ]
    refine take_lg (i := 9) (d := some 14) (v := ?v25) rfl rfl (by kernel_rfl) (by kernel_rfl) (by kernel_rfl) (fun _ _ _ h => h) (Or.inl ⟨by rfl, ?h25⟩) (by assumption) ?r25
    case h25 => (intro V hSw; have c0 := (SX.out V hSw 0).trans c0; have c1 := (SX.out V hSw 1).trans c1; have c2 := (SX.out V hSw 2).trans c2; have c3 := (SX.out V hSw 3).trans c3; have c4 := (SX.out V hSw 4).trans c4; have c5 := (SX.out V hSw 5).trans c5; have c6 := (SX.out V hSw 6).trans c6; obtain ⟨k1, lk⟩ := KP.out V hSw; have hfd := FD.out V; clear hSw; go_simp; (try with_reducible rfl))
    simp only [Act.put, List.setIfInBounds_toArray, List.set_cons_zero, List.set_cons_succ]
    refine take_lg (i := 10) (d := some 15) (v := ?v26) rfl rfl (by kernel_rfl) (by kernel_rfl) (by kernel_rfl) (fun _ _ _ h => h) (Or.inl ⟨by rfl, ?h26⟩) (by assumption) ?r26
    case h26 => (intro V hSw; have c0 := (SX.out V hSw 0).trans c0; have c1 := (SX.out V hSw 1).trans c1; have c2 := (SX.out V hSw 2).trans c2; have c3 := (SX.out V hSw 3).trans c3; have c4 := (SX.out V hSw 4).trans c4; have c5 := (SX.out V hSw 5).trans c5; have c6 := (SX.out V hSw 6).trans c6; obtain ⟨k1, lk⟩ := KP.out V hSw; have hfd := FD.out V; clear hSw; go_simp; (try with_reducible rfl))
    simp only [Act.put, List.setIfInBounds_toArray, List.set_cons_zero, List.set_cons_succ]
    refine take_lg (i := 11) (d := some 16) (v := ?v27) rfl rfl (by kernel_rfl) (by kernel_rfl) (by kernel_rfl) (fun _ _ _ h => h) (Or.inl ⟨by rfl, ?h27⟩) (by assumption) ?r27
    case h27 => (intro V hSw; have c0 := (SX.out V hSw 0).trans c0; have c1 := (SX.out V hSw 1).trans c1; have c2 := (SX.out V hSw 2).trans c2; have c3 := (SX.out V hSw 3).trans c3; have c4 := (SX.out V hSw 4).trans c4; have c5 := (SX.out V hSw 5).trans c5; have c6 := (SX.out V hSw 6).trans c6; obtain ⟨k1, lk⟩ := KP.out V hSw; have hfd := FD.out V; clear hSw; go_simp; (try with_reducible rfl))
    simp only [Act.put, List.setIfInBounds_toArray, List.set_cons_zero, List.set_cons_succ]
    refine take_lg (i := 12) (d := some 17) (v := ?v28) rfl rfl (by kernel_rfl) (by kernel_rfl) (by kernel_rfl) (fun _ _ _ h => h) (Or.inl ⟨by rfl, ?h28⟩) (by assumption) ?r28
    case h28 => (intro V hSw; have c0 := (SX.out V hSw 0).trans c0; have c1 := (SX.out V hSw 1).trans c1; have c2 := (SX.out V hSw 2).trans c2; have c3 := (SX.out V hSw 3).trans c3; have c4 := (SX.out V hSw 4).trans c4; have c5 := (SX.out V hSw 5).trans c5; have c6 := (SX.out V hSw 6).trans c6; obtain ⟨k1, lk⟩ := KP.out V hSw; have hfd := FD.out V; clear hSw; go_simp; (try with_reducible rfl))
    simp only [Act.put, List.setIfInBounds_toArray, List.set_cons_zero, List.set_cons_succ]
    refine take_lg (i := 13) (d := some 18) (v := ?v29) rfl rfl (by kernel_rfl) (by kernel_rfl) (by kernel_rfl) (fun _ _ _ h => h) (Or.inl ⟨by rfl, ?h29⟩) (by assumption) ?r29
    case h29 => (intro V hSw; have c0 := (SX.out V hSw 0).trans c0; have c1 := (SX.out V hSw 1).trans c1; have c2 := (SX.out V hSw 2).trans c2; have c3 := (SX.out V hSw 3).trans c3; have c4 := (SX.out V hSw 4).trans c4; have c5 := (SX.out V hSw 5).trans c5; have c6 := (SX.out V hSw 6).trans c6; obtain ⟨k1, lk⟩ := KP.out V hSw; have hfd := FD.out V; clear hSw; go_simp; (try with_reducible rfl))
    simp only [Act.put, List.setIfInBounds_toArray, List.set_cons_zero, List.set_cons_succ]
    refine take_lg (i := 14) (d := some 19) (v := ?v30) rfl rfl (by kernel_rfl) (by kernel_rfl) (by kernel_rfl) (fun _ _ _ h => h) (Or.inl ⟨by rfl, ?h30⟩) (by assumption) ?r30
    case h30 => (intro V hSw; have c0 := (SX.out V hSw 0).trans c0; have c1 := (SX.out V hSw 1).trans c1; have c2 := (SX.out V hSw 2).trans c2; have c3 := (SX.out V hSw 3).trans c3; have c4 := (SX.out V hSw 4).trans c4; have c5 := (SX.out V hSw 5).trans c5; have c6 := (SX.out V hSw 6).trans c6; obtain ⟨k1, lk⟩ := KP.out V hSw; have hfd := FD.out V; clear hSw; go_simp; (try with_reducible rfl))
    simp only [Act.put, List.setIfInBounds_toArray, List.set_cons_zero, List.set_cons_succ]
    refine take_lg (i := 15) (d := some 20) (v := ?v31) rfl rfl (by kernel_rfl) (by kernel_rfl) (by kernel_rfl) (fun _ _ _ h => h) (Or.inl ⟨by rfl, ?h31⟩) (by assumption) ?r31
    case h31 => (intro V hSw; have c0 := (SX.out V hSw 0).trans c0; have c1 := (SX.out V hSw 1).trans c1; have c2 := (SX.out V hSw 2).trans c2; have c3 := (SX.out V hSw 3).trans c3; have c4 := (SX.out V hSw 4).trans c4; have c5 := (SX.out V hSw 5).trans c5; have c6 := (SX.out V hSw 6).trans c6; obtain ⟨k1, lk⟩ := KP.out V hSw; have hfd := FD.out V; clear hSw; go_simp; (try with_reducible rfl))
    simp only [Act.put, List.setIfInBounds_toArray, List.set_cons_zero, List.set_cons_succ]
    refine take_lg (i := 16) (d := some 4) (v := ?v32) rfl rfl (by kernel_rfl) (by kernel_rfl) (by kernel_rfl) (fun _ _ _ h => h) (Or.inl ⟨by rfl, ?h32⟩) (by assumption) ?r32
    case h32 => (intro V hSw; have c0 := (SX.out V hSw 0).trans c0; have c1 := (SX.out V hSw 1).trans c1; have c2 := (SX.out V hSw 2).trans c2; have c3 := (SX.out V hSw 3).trans c3; have c4 := (SX.out V hSw 4).trans c4; have c5 := (SX.out V hSw 5).trans c5; have c6 := (SX.out V hSw 6).trans c6; obtain ⟨k1, lk⟩ := KP.out V hSw; have hfd := FD.out V; clear hSw; go_simp; (try with_reducible rfl))
    simp only [Act.put, List.setIfInBounds_toArray, List.set_cons_zero, List.set_cons_succ]
    refine wpAnyH_done (by kernel_rfl) ?_ _
    go_wp2
    go_ret
    exact ⟨rfl, below_on b1.out k2⟩
end Go.Proofs.YtiggkjkjfnlfkaaGreatDoor
