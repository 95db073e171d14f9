/-
  Several texts as one: ShName, ShDoN.
-/
import Derived.Test.YtjjfmepinpmkfaaGreatDoorRunA27
import Derived.Lib.ConvBytes
import Derived.Deep.Cut
import Derived.Deep.CutRange
import Derived.Test.YtjjfmepinpmkfaaGreatDoorRunA29
import Derived.RegionTactic
import Derived.Deep.RegionWith
namespace Go.Proofs.YtjjfmepinpmkfaaGreatDoor
open Go.ChangeShapes Go.WideShapes Go.ChangeAt Go.RowKit Go.Lib Go.Maps
set_option linter.unusedVariables false
def M.nameB (n : List Nat) : Bool := decide (n ≠ []) && (decide (n.length ≤ 12) && n.all M.letB)
theorem M.call_is (c : M.Ca) : M.callF c = if c.what < 1 ∨ 4 < c.what ∨ M.timeB c.ses = false ∨ M.timeB c.seq = false ∨ c.seq = 0 then 1 else if M.nameB c.name then 0 else 2 := by
  unfold M.callF M.nameB
  split
  · rfl
  · by_cases h1 : c.name = []
    · rw [if_pos (.inl h1)]; simp [h1]
    · by_cases h2 : 12 < c.name.length
      · rw [if_pos (.inr h2)]
        have : ¬ (c.name.length ≤ 12) := by omega
        simp [this]
      · rw [if_neg (by rintro (z | z); exact h1 z; exact h2 z)]
        have : c.name.length ≤ 12 := by omega
        simp [h1, this]
theorem byStr_size (n : List Nat) : (byStr n).size = n.length := by
  have := congrArg List.length (byStr_list n)
  simpa using this
theorem byStr_tl (n : List Nat) : (byStr n).toList = n.map UInt8.ofNat := by rw [ByteArray.toList_eq, byStr_list]
theorem byStr_at {n : List Nat} (hb : isB n) {i : Nat} (hi : i < n.length) : (((byStr n).data.toList.getD i 0).toNat : Nat) = n.getD i 0 := by
  rw [byStr_list]
  have : n.getD i 0 < 256 := by
    rw [List.getD, List.getElem?_eq_getElem hi]
    exact hb _ (List.getElem_mem hi)
  simp only [List.getD, List.getElem?_map, List.getElem?_eq_getElem hi, Option.map_some, Option.getD_some] at this ⊢
  simp
  omega
theorem below_bytes (w : World) (e : TypeId) (s : ByteArray) : Below w.heap.size w (bytesWorld w e s) := ⟨rfl, rfl, rfl, by rw [bytesWorld_size]; omega, fun q hq => bytesWorld_at_old w e s q hq⟩

set_option maxHeartbeats 8000000 in
set_option maxRecDepth 10000 in
theorem sh_isName (n : List Nat) (hb : isB n) (hl : n.length ≤ 9223372036854775807) (W : World) : Calls Tryz.prog 51 #[.string (byStr n)] W fun e w' => e = .returned (.bool (M.nameB n)) ∧ Below W.heap.size W w' := by
  have sz := byStr_size n
  by_cases h1 : n = []
  · have E : Hid (M.nameB n = false) := by unfold Hid M.nameB; simp [h1]
    have q : (byStr n).toList.isEmpty = true := by rw [byStr_tl, h1]; rfl
    have q' : (byStr n).toList = [] := by rw [byStr_tl, h1]; rfl
    rw [E.out]
    clear sz h1 hb
    generalize byStr n = s at *
    go_enter Tryz.func51, Tryz.ntmps51
    go_wp2
    go_ret
    exact ⟨rfl, Below.refl _ _⟩
  have q' : ¬ (byStr n).toList = [] := by
    rw [byStr_tl]
    intro e
    exact h1 (List.map_eq_nil_iff.1 e)
  have q : (byStr n).toList.isEmpty = false := by
    rw [Bool.eq_false_iff, ne_eq, List.isEmpty_iff]
    exact q'
  by_cases h2 : 12 < n.length
  · have E : Hid (M.nameB n = false) := by
      unfold Hid M.nameB
      have : ¬ (n.length ≤ 12) := by omega
      simp [this]
    have g : decide ((12 : Int) < (n.length : Int)) = true := decide_eq_true (by omega)
    have g' : decide (12 < n.length) = true := decide_eq_true (by omega)
    rw [E.out]
    clear h1 hb
    generalize byStr n = s at *
    go_enter Tryz.func51, Tryz.ntmps51
    go_wp2
    go_ret
    exact ⟨rfl, Below.refl _ _⟩
  have g : decide ((12 : Int) < (n.length : Int)) = false := decide_eq_false (by omega)
  have g' : decide (12 < n.length) = false := decide_eq_false (by omega)
  have l12 : n.length ≤ 12 := by omega
  have EB : Hid (M.nameB n = n.all M.letB) := by
    unfold Hid M.nameB
    simp [h1, l12]
  have AT := hide (fun i (hi : i < n.length) => byStr_at hb hi)
  have CV := Lib.run_convert_string_bytes (P := Tryz.prog) W 9 34 5 (byStr n) Tryz.underlying9 Tryz.underlying34 Tryz.underlying5
  rw [sz] at CV
  have K := hide (below_bytes W 5 (byStr n))
  have CE : Hid (∀ i, i < n.length → (bytesWorld W 5 (byStr n)).cell? ⟨W.heap.size, i, none⟩ = some (.int .u8 (n.getD i 0 : Nat))) := fun i hi => by
    rw [bytesWorld_cell W 5 (byStr n) i (by rw [sz]; exact hi), AT.out i hi]
  generalize grownCap W n.length 0 5 = cp at *
  generalize bytesWorld W 5 (byStr n) = W1 at *
  clear AT h1 h2 hb
  generalize byStr n = s at *
  go_enter Tryz.func51, Tryz.ntmps51
  go_wp2
  go_loopw [15] (fun i wr => ∃ k : Nat, k ≤ n.length ∧ i = .int .i64 k ∧ Hid ((n.take k).all M.letB = true) ∧ Hid (wr = W1)) (fun i _ => n.length - (intOf i).toNat)
  case atStart => exact ⟨0, Nat.zero_le _, rfl, rfl, rfl⟩
  case round =>
    obtain ⟨k, hk, rfl, OK, EW⟩ := hrel
    have ew := EW.out
    subst ew
    by_cases hlt : k < n.length
    · have kz : (k : Int) < (n.length : Int) := by omega
      have c0 := CE.out k hlt
      have TK : Hid ((n.take (k + 1)).all M.letB = M.letB (n.getD k 0)) := by
        unfold Hid
        rw [List.take_succ_eq_append_getElem hlt, List.all_append, OK.out]
        simp [List.getD, hlt]
      have AL : Hid (M.letB (n.getD k 0) = false → n.all M.letB = false) := fun z => by
        rw [List.all_eq_false]
        exact ⟨n.getD k 0, by rw [show n.getD k 0 = n[k] by simp [List.getD, hlt]]; exact List.getElem_mem hlt, by rw [z]; decide⟩
      clear CE OK CV
      generalize n.getD k 0 = x at *
      by_cases bad : M.letB x = true
      · have b2 : 97 ≤ x ∧ x ≤ 122 := by unfold M.letB at bad; simpa using bad
        have t1 : decide ((x : Int) < 97) = false := decide_eq_false (by omega)
        have t2 : decide ((122 : Int) < (x : Int)) = false := decide_eq_false (by omega)
        have t3 : decide (x < 97) = false := decide_eq_false (by omega)
        have t4 : decide (122 < x) = false := decide_eq_false (by omega)
        have BD := hide bad
        clear bad b2
        go_wp2
        go_roundw
        case rel => exact ⟨k + 1, by omega, by go_num, (show Hid _ by unfold Hid; rw [TK.out]; exact BD.out), trivial⟩
        case measure => simp [intOf]; omega
      · have bd : M.letB x = false := by simpa using bad
        have E : Hid (M.nameB n = false) := by unfold Hid; rw [EB.out, AL.out bd]
        have ways : (decide ((x : Int) < 97) = true ∧ decide (x < 97) = true) ∨ (decide ((x : Int) < 97) = false ∧ decide (x < 97) = false ∧ decide ((122 : Int) < (x : Int)) = true ∧ decide (122 < x) = true) := by
          unfold M.letB at bd
          simp only [decide_eq_true_iff, decide_eq_false_iff_not, Bool.and_eq_false_iff] at bd ⊢
          omega
        clear bad bd TK AL EB
        rcases ways with ⟨t1, t2⟩ | ⟨t1, t2, t3, t4⟩
        all_goals (
          go_wp2
          go_ret
          exact ⟨by rw [E.out]; rfl, K.out⟩)
    · have ek : k = n.length := by omega
      have kz : ¬ ((k : Int) < (n.length : Int)) := by omega
      have E : Hid (M.nameB n = true) := by
        unfold Hid
        rw [EB.out, ← OK.out, ek, List.take_length]
      clear ek CE OK EB CV
      go_wp2
      go_ret
      exact ⟨by rw [E.out]; rfl, K.out⟩

set_option maxHeartbeats 8000000 in
theorem sh_check (c : M.Ca) (a : Option Addr) (cap : Nat) (hb : isB c.name) (hl : c.name.length ≤ 9223372036854775807) (W : World) :
    Calls Tryz.prog 30 #[caV c a cap] W fun e w' => e = .returned (errV (M.callF c)) ∧ Below W.heap.size W w' := by
  rw [M.call_is]
  unfold caV
  obtain ⟨W1, hW1⟩ : ∃ X, X = W.alloc (.cells #[.int .i64 c.what, .int .i64 c.ses, .int .i64 c.seq, .string (byStr c.name), .int .i64 c.num, .int .i64 c.share, .slice a c.bys.length cap] 36) := ⟨_, rfl⟩
  have b1 : Hid (Below W.heap.size W W1) := by unfold Hid; rw [hW1]; exact (Below.refl _ _).alloc (Nat.le_refl _) _
  have bx := bx_new W [.int .i64 c.what, .int .i64 c.ses, .int .i64 c.seq, .string (byStr c.name), .int .i64 c.num, .int .i64 c.share, .slice a c.bys.length cap] 36
  have c0 := bx.cell 0 _ rfl
  have c1 := bx.cell 1 _ rfl
  have c2 := bx.cell 2 _ rfl
  have c3 := bx.cell 3 _ rfl
  clear bx
  rw [← hW1] at c0 c1 c2 c3
  have NM := hide (sh_isName c.name hb hl W1)
  by_cases bad : c.what < 1 ∨ 4 < c.what ∨ M.timeB c.ses = false ∨ M.timeB c.seq = false ∨ c.seq = 0
  · rw [if_pos bad, err_some (show (1 : Int) ≠ 0 by decide)]
    have ways : decide (c.what < 1) = true ∨ (decide (c.what < 1) = false ∧ decide (4 < c.what) = true) ∨ (decide (c.what < 1) = false ∧ decide (4 < c.what) = false ∧ decide (c.ses < 0) = true) ∨ (decide (c.what < 1) = false ∧ decide (4 < c.what) = false ∧ decide (c.ses < 0) = false ∧ decide (1000000 < c.ses) = true) ∨ (decide (c.what < 1) = false ∧ decide (4 < c.what) = false ∧ decide (c.ses < 0) = false ∧ decide (1000000 < c.ses) = false ∧ decide (c.seq < 1) = true) ∨ (decide (c.what < 1) = false ∧ decide (4 < c.what) = false ∧ decide (c.ses < 0) = false ∧ decide (1000000 < c.ses) = false ∧ decide (c.seq < 1) = false ∧ decide (1000000 < c.seq) = true) := by
      unfold M.timeB at bad
      simp only [decide_eq_true_iff, decide_eq_false_iff_not, Bool.and_eq_false_iff] at bad ⊢
      omega
    clear bad NM hb hl
    rcases ways with g1 | ⟨g1, g2⟩ | ⟨g1, g2, g3⟩ | ⟨g1, g2, g3, g4⟩ | ⟨g1, g2, g3, g4, g5⟩ | ⟨g1, g2, g3, g4, g5, g6⟩
    all_goals (
      go_enter Tryz.func30, Tryz.ntmps30
      go_upto_region 1 with fail
      rw [← hW1]
      clear hW1
      go_wp2
      go_ret
      exact ⟨rfl, b1.out⟩)
  rw [if_neg bad]
  have ok : c.what ≥ 1 ∧ c.what ≤ 4 ∧ 0 ≤ c.ses ∧ c.ses ≤ 1000000 ∧ 1 ≤ c.seq ∧ c.seq ≤ 1000000 := by
    unfold M.timeB at bad
    simp only [Bool.and_eq_false_iff, decide_eq_false_iff_not] at bad
    omega
  have g1 : decide (c.what < 1) = false := decide_eq_false (by omega)
  have g2 : decide (4 < c.what) = false := decide_eq_false (by omega)
  have g3 : decide (c.ses < 0) = false := decide_eq_false (by omega)
  have g4 : decide (1000000 < c.ses) = false := decide_eq_false (by omega)
  have g5 : decide (c.seq < 1) = false := decide_eq_false (by omega)
  have g6 : decide (1000000 < c.seq) = false := decide_eq_false (by omega)
  clear bad ok hb hl
  cases nb : M.nameB c.name with
  | false =>
    rw [nb] at NM
    rw [if_neg (by decide), err_some (show (2 : Int) ≠ 0 by decide)]
    clear nb
    go_enter Tryz.func30, Tryz.ntmps30
    go_upto_region 1 with fail
    rw [← hW1]
    clear hW1
    go_wp2_with (go_at_call 51; refine NM.out.mono ?_; rintro e w1 ⟨rfl, h1⟩; have H1 := hide (below_on b1.out h1); clear h1)
    go_ret
    exact ⟨rfl, H1.out⟩
  | true =>
    rw [nb] at NM
    rw [if_pos rfl, err_nil rfl]
    clear nb
    go_enter Tryz.func30, Tryz.ntmps30
    go_upto_region 1 with fail
    rw [← hW1]
    clear hW1
    go_wp2_with (go_at_call 51; refine NM.out.mono ?_; rintro e w1 ⟨rfl, h1⟩; have H1 := hide (below_on b1.out h1); clear h1)
    go_ret
    exact ⟨rfl, H1.out⟩
/-- a session's last call; none: one of which nothing is told -/
def M.was (S : M.Sh) (ses : Int) : M.Dn := match M.lastN S ses with
  | none => dn0
  | some k => S.done.getD k dn0
/-- a call that counts -/
def M.cntF (S : M.Sh) (c : M.Ca) : M.An × Int × M.Sh := (if (M.act S c).2.1 = 0 then ⟨(M.act S c).1, S.idx + 1⟩ else M.an0, (M.act S c).2.1, ⟨S.idx + 1, (M.act S c).2.2, M.say S.done (M.lastN S c.ses) ⟨c.ses, c.seq, if (M.act S c).2.1 = 0 then ⟨(M.act S c).1, S.idx + 1⟩ else M.an0, (M.act S c).2.1⟩⟩)
theorem M.call_seq {c : M.Ca} (h : M.callF c = 0) : (1 ≤ c.what ∧ c.what ≤ 4) ∧ (0 ≤ c.ses ∧ c.ses ≤ 1000000) ∧ (1 ≤ c.seq ∧ c.seq ≤ 1000000) ∧ c.name.length ≤ 12 := by
  unfold M.callF at h
  split at h
  · cases h
  · next q =>
    split at h
    · cases h
    · next q2 =>
      unfold M.timeB at q
      simp only [Bool.and_eq_false_iff, decide_eq_false_iff_not] at q
      have : ¬ 12 < c.name.length := fun z => q2 (.inr z)
      omega
theorem M.do_is {S : M.Sh} {c : M.Ca} (h : M.callF c = 0) : M.shDo S c = if (M.was S c.ses).seq = c.seq then ((M.was S c.ses).ans, (M.was S c.ses).bad, S) else if c.seq < (M.was S c.ses).seq then (M.an0, 6, S) else M.cntF S c := by
  have hs := (M.call_seq h).2.2.1
  unfold M.shDo M.was M.cntF
  rw [if_neg (by simp [h])]
  cases hl : M.lastN S c.ses with
  | none =>
    simp only
    rw [if_neg (show ¬ (dn0.seq = c.seq) by show ¬ ((0 : Int) = c.seq); omega), if_neg (show ¬ (c.seq < dn0.seq) by show ¬ (c.seq < (0 : Int)); omega)]
    rfl
  | some k => rfl
theorem err_ways (b : Int) : errV b = .nilIface ∨ ∃ x, errV b = .iface 87 (.int .i64 x) := by
  by_cases h : b = 0
  · exact .inl (err_nil h)
  · exact .inr ⟨b, err_some h⟩
theorem zeroL (w : World) : (zeroValue 86).run Tryz.prog w = .ok (.agg #[.int .i64 0, .int .i64 0, .int .i64 0, .nilIface]) w := Tryz.zeroValue86 w
theorem SV.lookL {W : World} {f : Nat} {T : Nat → Nat} {S : M.Sh} {mm ml : Nat} {D E : DataW Value} {kb : Nat → Nat} {mb : List Nat → Nat} {va : List Nat → Option Addr} {vc : List Nat → Nat} {G : Nat → Gr} (h : SV W f T S mm ml D E kb mb va vc G) {ses : Int} (hs : 0 ≤ ses ∧ ses ≤ 1000000) : (Instr.lookup 76 (.map (some ml)) (.int .i64 ses) false).run Tryz.prog W = .ok (lastV (M.was S ses)) W := by
  obtain ⟨m, lo⟩ := h.lo
  obtain ⟨v, ps, hrun, hv⟩ := lo.lookup keyI Tryz.underlying76 (zeroL W) (zd := .held (lastV dn0)) (zp := []) rfl (keyOf_int_mk (a := ses) Tryz.underlying3 (WalkArith.wf_i64 (by omega)))
  have e : E.atKey (.int .i64 ses) (.held (lastV dn0)) = .held (lastV (M.was S ses)) := by
    unfold M.was
    cases hl : M.lastN S ses with
    | none => exact atKey_of_not_has (h.ln ses hl) _
    | some k => exact h.la ses k hl _
  rw [e] at hv
  unfold selfE at hv
  simp only [Option.some.injEq, Prod.mk.injEq, DataW.held.injEq] at hv
  rw [hrun, hv.1]

set_option maxHeartbeats 16000000 in
set_option maxRecDepth 10000 in
theorem sh_Do_no {W : World} {f : Nat} {T : Nat → Nat} {S : M.Sh} {mm ml : Nat} {D E : DataW Value} {kb : Nat → Nat} {mb : List Nat → Nat} {va : List Nat → Option Addr} {vc : List Nat → Nat} {G : Nat → Gr} (h : SV W f T S mm ml D E kb mb va vc G) (c : M.Ca) (a : Option Addr) (cap : Nat) (hb : isB c.name) (hl : c.name.length ≤ 9223372036854775807) (hq : M.callF c ≠ 0 ∨ (M.was S c.ses).seq = c.seq ∨ c.seq < (M.was S c.ses).seq) :
    Calls Tryz.prog 8 #[.pointer (some ⟨f, 0, none⟩), caV c a cap] W fun e w' => e = .returned (.tuple #[anV (M.shDo S c).1, errV (M.shDo S c).2.1]) ∧ Left W f T (M.shDo S c).2.2 w' := by
  unfold caV
  obtain ⟨W1, hW1⟩ : ∃ X, X = (W.alloc (.cells #[.int .i64 c.what, .int .i64 c.ses, .int .i64 c.seq, .string (byStr c.name), .int .i64 c.num, .int .i64 c.share, .slice a c.bys.length cap] 36)).alloc (.cells #[.int .i64 0, .int .i64 0] 31) := ⟨_, rfl⟩
  have z1 : W1.heap.size = W.heap.size + 1 + 1 := by rw [hW1]; simp
  have b1 : Hid (Below W.heap.size W W1) := by unfold Hid; rw [hW1]; exact ((Below.refl _ _).alloc (Nat.le_refl _) _).alloc (by simp) _
  have bx : Bx W1 W.heap.size [.int .i64 c.what, .int .i64 c.ses, .int .i64 c.seq, .string (byStr c.name), .int .i64 c.num, .int .i64 c.share, .slice a c.bys.length cap] := by rw [hW1]; exact (bx_new W _ _).keep (((Below.refl _ _).alloc (Nat.le_refl _) _).block _ (by simp))
  have ba : Bx W1 (W.heap.size + 1) [.int .i64 0, .int .i64 0] := by
    rw [hW1]
    have := bx_new (W.alloc (.cells #[.int .i64 c.what, .int .i64 c.ses, .int .i64 c.seq, .string (byStr c.name), .int .i64 c.num, .int .i64 c.share, .slice a c.bys.length cap] 36)) [.int .i64 0, .int .i64 0] 31
    rwa [show (W.alloc (.cells #[.int .i64 c.what, .int .i64 c.ses, .int .i64 c.seq, .string (byStr c.name), .int .i64 c.num, .int .i64 c.share, .slice a c.bys.length cap] 36)).heap.size = W.heap.size + 1 by simp] at this
  have SAME : Hid (∀ w', Below W.heap.size W w' → Left W f T S w') := fun w' hw => ⟨T, ⟨mm, ml, D, E, kb, mb, va, vc, G, h.below hw⟩, stay_of hw (Nat.le_refl _), fun q hq => .inl hq⟩
  have CK := hide (sh_check c a cap hb hl W1)
  unfold caV at CK
  have BX := hide bx
  have BA := hide ba
  have c0 := bx.cell 0 _ rfl
  have c1 := bx.cell 1 _ rfl
  have c2 := bx.cell 2 _ rfl
  have c3 := bx.cell 3 _ rfl
  have c4 := bx.cell 4 _ rfl
  have c5 := bx.cell 5 _ rfl
  have c6 := bx.cell 6 _ rfl
  clear bx ba
  by_cases q1 : M.callF c = 0
  case neg =>
    have ED : Hid (M.shDo S c = (M.an0, M.callF c, S)) := by unfold Hid M.shDo; rw [if_pos q1]
    rw [ED.out]
    simp only
    rw [err_some q1] at CK ⊢
    have KP : Hid (∀ w2, Below W1.heap.size W1 w2 → (w2.cell? ⟨W.heap.size + 1, 0, none⟩ = some (.int .i64 0) ∧ w2.cell? ⟨W.heap.size + 1, 1, none⟩ = some (.int .i64 0) ∧ w2.frozen? ⟨W.heap.size + 1, 0, none⟩ = false ∧ w2.frozen? ⟨W.heap.size + 1, 1, none⟩ = false)) := fun w2 hw => by
      have := BA.out.keep (hw.block _ BA.out.lt)
      exact ⟨this.cell 0 _ rfl, this.cell 1 _ rfl, this.free 0, this.free 1⟩
    have EA : Hid (anV M.an0 = .agg #[.int .i64 0, .int .i64 0]) := rfl
    rw [EA.out]
    have Z1 := hide z1
    clear h hq q1 ED hb hl z1
    generalize M.callF c = ce at *
    generalize byStr c.name = s at *
    go_enter Tryz.func8, Tryz.ntmps8
    go_upto_region 1 with fail
    rw [← hW1]
    clear hW1
    go_upto_region 3 with (go_at_call 30; refine CK.out.mono ?_; rintro e w2 ⟨rfl, h2⟩; obtain ⟨k0, k1, k2, k3⟩ := KP.out _ h2; have H2 := hide h2; clear h2)
    go_wp2
    refine bodyPost_ret (v := .tuple #[.agg #[.int .i64 0, .int .i64 0], .iface 87 (.int .i64 ce)]) (by simp [results, Tryz.results8, go_sem, k0, k1]) rfl ?_
    refine ⟨rfl, SAME.out _ ?_⟩
    have := Z1.out
    exact ((below_on b1.out H2.out).setCell (by show W.heap.size ≤ W.heap.size + 1; omega) _).setCell (by show W.heap.size ≤ W.heap.size + 1; omega) _
  have q2 := hq.resolve_left (fun z => z q1)
  obtain ⟨_, ses1, seq1, _⟩ := M.call_seq q1
  have KP : Hid (∀ w2, Below W1.heap.size W1 w2 → (∀ j, w2.cell? ⟨W.heap.size, j, none⟩ = W1.cell? ⟨W.heap.size, j, none⟩) ∧ Bx w2 (W.heap.size + 1) [.int .i64 0, .int .i64 0] ∧ w2.cell? ⟨f, 1, none⟩ = some (.map (some ml)) ∧ (Instr.lookup 76 (.map (some ml)) (.int .i64 c.ses) false).run Tryz.prog w2 = .ok (lastV (M.was S c.ses)) w2 ∧ (Instr.lookup 76 (.map (some ml)) (.int .i64 c.ses) false).run Tryz.prog w2.drew = .ok (lastV (M.was S c.ses)) w2.drew ∧ (Instr.lookup 76 (.map (some ml)) (.int .i64 c.ses) false).run Tryz.prog (w2.alloc (.cells #[.int .i64 0, .int .i64 0, .int .i64 0, .nilIface] 86)) = .ok (lastV (M.was S c.ses)) (w2.alloc (.cells #[.int .i64 0, .int .i64 0, .int .i64 0, .nilIface] 86)) ∧ (Instr.lookup 76 (.map (some ml)) (.int .i64 c.ses) false).run Tryz.prog (w2.alloc (.cells #[.int .i64 0, .int .i64 0, .int .i64 0, .nilIface] 86)).drew = .ok (lastV (M.was S c.ses)) (w2.alloc (.cells #[.int .i64 0, .int .i64 0, .int .i64 0, .nilIface] 86)).drew) := fun w2 hw => by
    have hb := below_on b1.out hw
    have h2 := h.below hb
    have h3 := h.below hb.drew
    exact ⟨fun j => hw.cell (p := ⟨W.heap.size, j, none⟩) BX.out.lt, BA.out.keep (hw.block _ BA.out.lt), h2.box.cell 1 _ rfl, h2.lookL ses1, h3.lookL ses1, (h.below (hb.alloc hb.size _)).lookL ses1, (h.below (hb.alloc hb.size _).drew).lookL ses1⟩
  unfold lastV at KP
  rw [err_nil q1] at CK
  rw [M.do_is q1]
  have Z1 := hide z1
  have fl : f < W.heap.size := h.lt
  by_cases q3 : (M.was S c.ses).seq = c.seq
  · rw [if_pos q3]
    simp only
    have g1 : (c.seq == (M.was S c.ses).seq) = true := by rw [q3, beq_self_eq_true]
    have EA : Hid (anV (M.was S c.ses).ans = .agg #[.int .i64 (M.was S c.ses).ans.num, .int .i64 (M.was S c.ses).ans.idx]) := rfl
    rw [EA.out]
    clear h hq q1 q2 q3 hb hl z1 ses1 seq1
    generalize (M.was S c.ses).seq = y0 at *
    generalize (M.was S c.ses).ans.num = y1 at *
    generalize (M.was S c.ses).ans.idx = y2 at *
    have ways := err_ways (M.was S c.ses).bad
    generalize errV (M.was S c.ses).bad = y3 at *
    generalize byStr c.name = s at *
    obtain rfl | ⟨x3, rfl⟩ := ways
    · go_enter Tryz.func8, Tryz.ntmps8
      go_upto_region 1 with fail
      rw [← hW1]
      clear hW1
      go_upto_region 4 with (go_at_call 30; refine CK.out.mono ?_; rintro e w2 ⟨rfl, h2⟩; obtain ⟨kc, ka, k1, lk, lkd, lka, lkad⟩ := KP.out _ h2; have H2 := hide h2; clear h2)
      have d1 := (kc 1).trans c1
      have d2 := (kc 2).trans c2
      have zl : Hid (W.heap.size + 1 < w2.heap.size) := ka.lt
      have l1 : W.heap.size < w2.heap.size := by have := zl.out; omega
      have l2 : ¬ W.heap.size = w2.heap.size := by omega
      have l3 : W.heap.size + 1 < w2.heap.size := zl.out
      have l4 : ¬ W.heap.size + 1 = w2.heap.size := by omega
      have l5 : ¬ w2.heap.size = W.heap.size + 1 := by omega
      have l6 : f < w2.heap.size := by omega
      have l7 : ¬ f = w2.heap.size := by omega
      have pb : Bx (((w2.setCell ⟨W.heap.size + 1, 0, none⟩ (.int .i64 y1)).setCell ⟨W.heap.size + 1, 1, none⟩ (.int .i64 y2)).alloc (.cells #[.int .i64 y0, .int .i64 y1, .int .i64 y2, .nilIface] 86)) (W.heap.size + 1) [.int .i64 y1, .int .i64 y2] := ((ka.put (j := 0) (v := .int .i64 y1)).put (j := 1) (v := .int .i64 y2)).keep (((Below.refl _ _).alloc (Nat.le_refl _) _).block _ (by simp; exact zl.out))
      have e0 := pb.cell 0 _ rfl
      have e1 := pb.cell 1 _ rfl
      clear pb
      have a0 := ka.cell 0 _ rfl
      have a1 := ka.cell 1 _ rfl
      have f0 := ka.free 0
      have f1 := ka.free 1
      clear kc ka c0 c1 c2 c3 c4 c5 c6 CK KP
      go_region_with (fail)
      all_goals (
        go_upto_region 6 with fail
        go_region_with (fail)
        all_goals (
          go_simp
          go_wp2
          refine bodyPost_ret (v := .tuple #[.agg #[.int .i64 y1, .int .i64 y2], .nilIface]) (by simp [results, Tryz.results8, go_sem, e0, e1]) rfl ?_
          refine ⟨rfl, SAME.out _ ?_⟩
          have B2 := below_on b1.out H2.out
          repeat (first
            | exact B2
            | refine Below.setCell ?_ (show W.heap.size ≤ W.heap.size + 1 by omega) _
            | refine Below.drew ?_
            | refine Below.alloc ?_ (show W.heap.size ≤ _ by simp only [World.size_setCell]; omega) _)))
    · go_enter Tryz.func8, Tryz.ntmps8
      go_upto_region 1 with fail
      rw [← hW1]
      clear hW1
      go_upto_region 4 with (go_at_call 30; refine CK.out.mono ?_; rintro e w2 ⟨rfl, h2⟩; obtain ⟨kc, ka, k1, lk, lkd, lka, lkad⟩ := KP.out _ h2; have H2 := hide h2; clear h2)
      have d1 := (kc 1).trans c1
      have d2 := (kc 2).trans c2
      have zl : Hid (W.heap.size + 1 < w2.heap.size) := ka.lt
      have l1 : W.heap.size < w2.heap.size := by have := zl.out; omega
      have l2 : ¬ W.heap.size = w2.heap.size := by omega
      have l3 : W.heap.size + 1 < w2.heap.size := zl.out
      have l4 : ¬ W.heap.size + 1 = w2.heap.size := by omega
      have l5 : ¬ w2.heap.size = W.heap.size + 1 := by omega
      have l6 : f < w2.heap.size := by omega
      have l7 : ¬ f = w2.heap.size := by omega
      have pb : Bx (((w2.setCell ⟨W.heap.size + 1, 0, none⟩ (.int .i64 y1)).setCell ⟨W.heap.size + 1, 1, none⟩ (.int .i64 y2)).alloc (.cells #[.int .i64 y0, .int .i64 y1, .int .i64 y2, .iface 87 (.int .i64 x3)] 86)) (W.heap.size + 1) [.int .i64 y1, .int .i64 y2] := ((ka.put (j := 0) (v := .int .i64 y1)).put (j := 1) (v := .int .i64 y2)).keep (((Below.refl _ _).alloc (Nat.le_refl _) _).block _ (by simp; exact zl.out))
      have e0 := pb.cell 0 _ rfl
      have e1 := pb.cell 1 _ rfl
      clear pb
      have a0 := ka.cell 0 _ rfl
      have a1 := ka.cell 1 _ rfl
      have f0 := ka.free 0
      have f1 := ka.free 1
      clear kc ka c0 c1 c2 c3 c4 c5 c6 CK KP
      go_region_with (fail)
      all_goals (
        go_upto_region 6 with fail
        go_region_with (fail)
        all_goals (
          go_simp
          go_wp2
          refine bodyPost_ret (v := .tuple #[.agg #[.int .i64 y1, .int .i64 y2], .iface 87 (.int .i64 x3)]) (by simp [results, Tryz.results8, go_sem, e0, e1]) rfl ?_
          refine ⟨rfl, SAME.out _ ?_⟩
          have B2 := below_on b1.out H2.out
          repeat (first
            | exact B2
            | refine Below.setCell ?_ (show W.heap.size ≤ W.heap.size + 1 by omega) _
            | refine Below.drew ?_
            | refine Below.alloc ?_ (show W.heap.size ≤ _ by simp only [World.size_setCell]; omega) _)))
  have q4 : c.seq < (M.was S c.ses).seq := q2.resolve_left q3
  rw [if_neg q3, if_pos q4]
  simp only
  have g1 : (c.seq == (M.was S c.ses).seq) = false := by rw [beq_eq_false_iff_ne]; omega
  have g2 : decide (c.seq < (M.was S c.ses).seq) = true := decide_eq_true q4
  have EA : Hid (anV M.an0 = .agg #[.int .i64 0, .int .i64 0]) := rfl
  rw [EA.out, err_some (show (6 : Int) ≠ 0 by decide)]
  clear h hq q1 q2 q3 q4 hb hl z1 ses1 seq1
  generalize (M.was S c.ses).seq = y0 at *
  generalize (M.was S c.ses).ans.num = y1 at *
  generalize (M.was S c.ses).ans.idx = y2 at *
  have ways := err_ways (M.was S c.ses).bad
  generalize errV (M.was S c.ses).bad = y3 at *
  generalize byStr c.name = s at *
  obtain rfl | ⟨x3, rfl⟩ := ways
  · go_enter Tryz.func8, Tryz.ntmps8
    go_upto_region 1 with fail
    rw [← hW1]
    clear hW1
    go_upto_region 4 with (go_at_call 30; refine CK.out.mono ?_; rintro e w2 ⟨rfl, h2⟩; obtain ⟨kc, ka, k1, lk, lkd, lka, lkad⟩ := KP.out _ h2; have H2 := hide h2; clear h2)
    have d1 := (kc 1).trans c1
    have d2 := (kc 2).trans c2
    have zl : Hid (W.heap.size + 1 < w2.heap.size) := ka.lt
    have l1 : W.heap.size < w2.heap.size := by have := zl.out; omega
    have l2 : ¬ W.heap.size = w2.heap.size := by omega
    have l3 : W.heap.size + 1 < w2.heap.size := zl.out
    have l4 : ¬ W.heap.size + 1 = w2.heap.size := by omega
    have l5 : ¬ w2.heap.size = W.heap.size + 1 := by omega
    have l6 : f < w2.heap.size := by omega
    have l7 : ¬ f = w2.heap.size := by omega
    have pb : Bx (((w2.setCell ⟨W.heap.size + 1, 0, none⟩ (.int .i64 0)).setCell ⟨W.heap.size + 1, 1, none⟩ (.int .i64 0)).alloc (.cells #[.int .i64 y0, .int .i64 y1, .int .i64 y2, .nilIface] 86)) (W.heap.size + 1) [.int .i64 0, .int .i64 0] := ((ka.put (j := 0) (v := .int .i64 0)).put (j := 1) (v := .int .i64 0)).keep (((Below.refl _ _).alloc (Nat.le_refl _) _).block _ (by simp; exact zl.out))
    have e0 := pb.cell 0 _ rfl
    have e1 := pb.cell 1 _ rfl
    clear pb
    have a0 := ka.cell 0 _ rfl
    have a1 := ka.cell 1 _ rfl
    have f0 := ka.free 0
    have f1 := ka.free 1
    clear kc ka c0 c1 c2 c3 c4 c5 c6 CK KP
    go_region_with (fail)
    all_goals (
      go_wp2
      refine bodyPost_ret (v := .tuple #[.agg #[.int .i64 0, .int .i64 0], .iface 87 (.int .i64 6)]) (by simp [results, Tryz.results8, go_sem, e0, e1]) rfl ?_
      refine ⟨rfl, SAME.out _ ?_⟩
      have B2 := below_on b1.out H2.out
      repeat (first
        | exact B2
        | refine Below.setCell ?_ (show W.heap.size ≤ W.heap.size + 1 by omega) _
        | refine Below.drew ?_
        | refine Below.alloc ?_ (show W.heap.size ≤ _ by simp only [World.size_setCell]; omega) _))
  · go_enter Tryz.func8, Tryz.ntmps8
    go_upto_region 1 with fail
    rw [← hW1]
    clear hW1
    go_upto_region 4 with (go_at_call 30; refine CK.out.mono ?_; rintro e w2 ⟨rfl, h2⟩; obtain ⟨kc, ka, k1, lk, lkd, lka, lkad⟩ := KP.out _ h2; have H2 := hide h2; clear h2)
    have d1 := (kc 1).trans c1
    have d2 := (kc 2).trans c2
    have zl : Hid (W.heap.size + 1 < w2.heap.size) := ka.lt
    have l1 : W.heap.size < w2.heap.size := by have := zl.out; omega
    have l2 : ¬ W.heap.size = w2.heap.size := by omega
    have l3 : W.heap.size + 1 < w2.heap.size := zl.out
    have l4 : ¬ W.heap.size + 1 = w2.heap.size := by omega
    have l5 : ¬ w2.heap.size = W.heap.size + 1 := by omega
    have l6 : f < w2.heap.size := by omega
    have l7 : ¬ f = w2.heap.size := by omega
    have pb : Bx (((w2.setCell ⟨W.heap.size + 1, 0, none⟩ (.int .i64 0)).setCell ⟨W.heap.size + 1, 1, none⟩ (.int .i64 0)).alloc (.cells #[.int .i64 y0, .int .i64 y1, .int .i64 y2, .iface 87 (.int .i64 x3)] 86)) (W.heap.size + 1) [.int .i64 0, .int .i64 0] := ((ka.put (j := 0) (v := .int .i64 0)).put (j := 1) (v := .int .i64 0)).keep (((Below.refl _ _).alloc (Nat.le_refl _) _).block _ (by simp; exact zl.out))
    have e0 := pb.cell 0 _ rfl
    have e1 := pb.cell 1 _ rfl
    clear pb
    have a0 := ka.cell 0 _ rfl
    have a1 := ka.cell 1 _ rfl
    have f0 := ka.free 0
    have f1 := ka.free 1
    clear kc ka c0 c1 c2 c3 c4 c5 c6 CK KP
    go_region_with (fail)
    all_goals (
      go_wp2
      refine bodyPost_ret (v := .tuple #[.agg #[.int .i64 0, .int .i64 0], .iface 87 (.int .i64 6)]) (by simp [results, Tryz.results8, go_sem, e0, e1]) rfl ?_
      refine ⟨rfl, SAME.out _ ?_⟩
      have B2 := below_on b1.out H2.out
      repeat (first
        | exact B2
        | refine Below.setCell ?_ (show W.heap.size ≤ W.heap.size + 1 by omega) _
        | refine Below.drew ?_
        | refine Below.alloc ?_ (show W.heap.size ≤ _ by simp only [World.size_setCell]; omega) _))
end Go.Proofs.YtjjfmepinpmkfaaGreatDoor
