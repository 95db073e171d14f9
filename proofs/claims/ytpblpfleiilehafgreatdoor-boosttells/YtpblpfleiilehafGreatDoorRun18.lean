/-
  Several texts as one: SaPart, RefSum, RefSplit.
-/
import Derived.Test.YtpblpfleiilehafGreatDoorRun7
import Derived.Test.YtpblpfleiilehafGreatDoorRun16
import Derived.Deep.AppendLies
import Derived.OwnWalk
import Derived.Deep.Cut
import Derived.Deep.CutRange
namespace Go.Proofs.YtpblpfleiilehafGreatDoor
open Go.ChangeShapes Go.WideShapes Go.ChangeAt Go.RowKit Go.Lib
set_option linter.unusedVariables false

theorem M.part_more (l : List M.Sa) (f : Nat) (c : Int) (b : Bool) {k : Nat} (hk : k < l.length) : M.partS (l.take (k + 1)) f c b = if (decide (M.colA (M.sAt l k) f < c) == b) = true then M.partS (l.take k) f c b ++ [M.sAt l k] else M.partS (l.take k) f c b := by
  have e : M.sAt l k = l[k] := by unfold M.sAt; rw [M.getD_at hk]
  unfold M.partS
  rw [List.take_succ_eq_append_getElem hk, List.filter_append, e]
  by_cases q : (decide (M.colA l[k] f < c) == b) = true
  · rw [if_pos q, List.filter_cons_of_pos (by exact q)]; rfl
  · rw [if_neg q, List.filter_cons_of_neg (by exact q)]; simp
theorem M.sum_more (l : List M.Sa) (f : Nat) (c : Int) (b : Bool) {k : Nat} (hk : k < l.length) : M.sumT (M.partS (l.take (k + 1)) f c b) = (if (decide (M.colA (M.sAt l k) f < c) == b) = true then M.sumT (M.partS (l.take k) f c b) + (M.sAt l k).2 else M.sumT (M.partS (l.take k) f c b)) ∧ (M.partS (l.take (k + 1)) f c b).length = (if (decide (M.colA (M.sAt l k) f < c) == b) = true then (M.partS (l.take k) f c b).length + 1 else (M.partS (l.take k) f c b).length) := by
  rw [M.part_more l f c b hk]
  split
  · refine ⟨?_, by simp⟩
    rw [M.sumT_app]
    show _ + ((M.sAt l k).2 + 0) = _
    omega
  · exact ⟨rfl, rfl⟩

/-- samples that may be asked for a feature -/
structure Ask (xs : List Sx) (m : Nat) : Prop where
  le : xs.length ≤ 60
  row : ∀ x ∈ xs, x.2.1.length = m
  tgt : ∀ x ∈ xs, -1000 ≤ x.2.2.2 ∧ x.2.2.2 ≤ 1000
theorem Ask.of {xs : List Sx} {m : Nat} (h : M.GoodS (sms xs) m) : Ask xs m :=
  ⟨by have := h.le; rw [sms_len] at this; exact this, fun x hx => (h.each (sm x) (List.mem_map.2 ⟨x, hx, rfl⟩)).2.1, fun x hx => (h.each (sm x) (List.mem_map.2 ⟨x, hx, rfl⟩)).2.2.1⟩
theorem Ask.in {xs : List Sx} {m : Nat} (h : Ask xs m) (f : Nat) (c : Int) (b : Bool) (k : Nat) : -60000 ≤ M.sumT (M.partS ((sms xs).take k) f c b) ∧ M.sumT (M.partS ((sms xs).take k) f c b) ≤ 60000 ∧ (M.partS ((sms xs).take k) f c b).length ≤ 60 := by
  have l1 : (M.partS ((sms xs).take k) f c b).length ≤ 60 := by
    refine Nat.le_trans (List.length_filter_le _ _) ?_
    rw [List.length_take, sms_len]
    have := h.le
    omega
  have := M.sum_in (l := M.partS ((sms xs).take k) f c b) fun s hs => by
    have h1 := List.mem_of_mem_take (List.mem_filter.1 hs).1
    obtain ⟨x, hx, rfl⟩ := List.mem_map.1 h1
    exact h.tgt x hx
  omega

/-- the samples of one side, where their rows lie -/
def partX (xs : List Sx) (f : Nat) (c : Int) (b : Bool) : List Sx := xs.filter fun x => decide (x.2.1.getD f 0 < c) == b
theorem partX_sms (xs : List Sx) (f : Nat) (c : Int) (b : Bool) : sms (partX xs f c b) = M.partS (sms xs) f c b := by
  unfold sms partX M.partS
  rw [List.filter_map]
  rfl
theorem partX_more (xs : List Sx) (f : Nat) (c : Int) (b : Bool) {k : Nat} (hk : k < xs.length) : partX (xs.take (k + 1)) f c b = if (decide (xs[k].2.1.getD f 0 < c) == b) = true then partX (xs.take k) f c b ++ [xs[k]] else partX (xs.take k) f c b := by
  unfold partX
  rw [List.take_succ_eq_append_getElem hk, List.filter_append]
  by_cases q : (decide (xs[k].2.1.getD f 0 < c) == b) = true
  · rw [if_pos q, List.filter_cons_of_pos (by exact q)]; rfl
  · rw [if_neg q, List.filter_cons_of_neg (by exact q)]; simp
theorem partX_mem {xs : List Sx} {f : Nat} {c : Int} {b : Bool} {x : Sx} (h : x ∈ partX xs f c b) : x ∈ xs := (List.mem_filter.1 h).1
theorem Ask.part {xs : List Sx} {m : Nat} (h : Ask xs m) (f : Nat) (c : Int) (b : Bool) : Ask (partX xs f c b) m :=
  ⟨Nat.le_trans (List.length_filter_le _ _) h.le, fun x hx => h.row x (partX_mem hx), fun x hx => h.tgt x (partX_mem hx)⟩

theorem wrap_in5 (x : Int) (h1 : -9223372036854775808 ≤ x) (h2 : x ≤ 9223372036854775807) : IntKind.i64.wrap x = x := by
  simp [IntKind.wrap, IntKind.bits, IntKind.signed]
  split <;> omega
theorem M.sqR_in {s B : Int} (h1 : -B ≤ s) (h2 : s ≤ B) : 0 ≤ s * s ∧ s * s ≤ B * B := by
  by_cases h : 0 ≤ s
  · exact ⟨Int.mul_nonneg h h, Int.mul_le_mul h2 h2 h (by omega)⟩
  · have e : s * s = (-s) * (-s) := by grind
    rw [e]
    exact ⟨Int.mul_nonneg (by omega) (by omega), Int.mul_le_mul (by omega) (by omega) (by omega) (by omega)⟩
theorem M.mulp_in {a b A B : Int} (h1 : 0 ≤ a) (h2 : a ≤ A) (h3 : 0 ≤ b) (h4 : b ≤ B) : 0 ≤ a * b ∧ a * b ≤ A * B := ⟨Int.mul_nonneg h1 h3, Int.mul_le_mul h2 h4 h3 (by omega)⟩
theorem Ask.two {xs : List Sx} {m : Nat} (h : Ask xs m) (f : Nat) (c : Int) (b : Bool) : -60000 ≤ M.tB (sms xs) f c b ∧ M.tB (sms xs) f c b ≤ 60000 ∧ 0 ≤ M.nB (sms xs) f c b ∧ M.nB (sms xs) f c b ≤ 60 := by
  have := h.in f c b xs.length
  rw [← sms_len xs, List.take_length] at this
  unfold M.tB M.nB
  omega
theorem Ask.all {xs : List Sx} {m : Nat} (h : Ask xs m) (k : Nat) : -60000 ≤ M.sumT ((sms xs).take k) ∧ M.sumT ((sms xs).take k) ≤ 60000 := by
  have l1 : ((sms xs).take k).length ≤ 60 := by
    rw [List.length_take, sms_len]
    have := h.le
    omega
  have := M.sum_in (l := (sms xs).take k) fun s hs => by
    obtain ⟨x, hx, rfl⟩ := List.mem_map.1 (List.mem_of_mem_take hs)
    exact h.tgt x hx
  omega
theorem Ask.ud {xs : List Sx} {m : Nat} (h : Ask xs m) (f : Nat) (c : Int) : (0 ≤ M.spU (sms xs) f c ∧ M.spU (sms xs) f c ≤ 432000000000) ∧ (0 ≤ M.spD (sms xs) f c ∧ M.spD (sms xs) f c ≤ 3600) := by
  obtain ⟨a1, a2, a3, a4⟩ := h.two f c true
  obtain ⟨b1, b2, b3, b4⟩ := h.two f c false
  have s1 := M.sqR_in a1 a2
  have s2 := M.sqR_in b1 b2
  have u1 := M.mulp_in s1.1 s1.2 b3 b4
  have u2 := M.mulp_in s2.1 s2.2 a3 a4
  have d := M.mulp_in a3 a4 b3 b4
  unfold M.spU M.spD
  omega
theorem Ask.st {xs : List Sx} {m : Nat} (h : Ask xs m) (least : Int) : (0 ≤ (M.sp0 (sms xs)).1 ∧ (M.sp0 (sms xs)).1 ≤ 432000000000) ∧ (0 ≤ (M.sp0 (sms xs)).2.1 ∧ (M.sp0 (sms xs)).2.1 ≤ 3600) := by
  have := h.all xs.length
  rw [← sms_len xs, List.take_length] at this
  have s := M.sqR_in this.1 this.2
  have := h.le
  have e : (M.sp0 (sms xs)).2.1 = (xs.length : Nat) := by show (((sms xs).length : Nat) : Int) = _; rw [sms_len]
  rw [e]
  refine ⟨⟨s.1, ?_⟩, by omega, by omega⟩
  show M.sumT (sms xs) * M.sumT (sms xs) ≤ _
  omega
def StIn (st : M.SpS) : Prop := (0 ≤ st.1 ∧ st.1 ≤ 432000000000) ∧ (0 ≤ st.2.1 ∧ st.2.1 ≤ 3600)
theorem Ask.step {xs : List Sx} {m : Nat} (h : Ask xs m) (least : Int) {st : M.SpS} (hs : StIn st) (f : Nat) (c : Int) : StIn (M.spN (sms xs) least st f c) := by
  unfold M.spN
  split
  · split
    · exact h.ud f c
    · exact hs
  · exact hs
theorem Ask.inner {xs : List Sx} {m : Nat} (h : Ask xs m) (least : Int) {st : M.SpS} (hs : StIn st) (f : Nat) : ∀ k, StIn (M.spI (sms xs) least f st k)
  | 0 => hs
  | k + 1 => h.step least (h.inner least hs f k) f _
theorem Ask.outer {xs : List Sx} {m : Nat} (h : Ask xs m) (least : Int) : ∀ f, StIn (M.spA (sms xs) least f)
  | 0 => h.st least
  | f + 1 => h.inner least (h.outer least f) f _

end Go.Proofs.YtpblpfleiilehafGreatDoor

namespace Go.Proofs.YtpblpfleiilehafGreatDoor
open Go.ChangeShapes Go.WideShapes Go.ChangeAt Go.RowKit Go.Lib
set_option linter.unusedVariables false

set_option maxHeartbeats 4000000 in
set_option maxRecDepth 10000 in
theorem rsum_any (a : Option Addr) (xs : List Sx) (ca m f : Nat) (c : Int) (b : Bool) (w : World) (h : RdL w a xs) (A : Ask xs m) (hf : f < m) :
    Calls Tryz.prog 29 #[.slice a xs.length ca, .int .i64 (f : Nat), .int .i64 c, .bool b] w fun e w' => e = .returned (.tuple #[.int .i64 (M.tB (sms xs) f c b), .int .i64 (M.nB (sms xs) f c b)]) ∧ w' = w := by
  have HL := hide h
  have AA := hide A
  have l60 := A.le
  have E1 : Hid (M.tB (sms xs) f c b = M.sumT (M.partS ((sms xs).take xs.length) f c b)) := by unfold Hid M.tB; rw [← sms_len xs, List.take_length]
  have E2 : Hid (M.nB (sms xs) f c b = ((M.partS ((sms xs).take xs.length) f c b).length : Nat)) := by unfold Hid M.nB; rw [← sms_len xs, List.take_length]
  have SM : Hid (∀ k, k < xs.length → M.sumT (M.partS ((sms xs).take (k + 1)) f c b) = (if (decide (M.colA (M.sAt (sms xs) k) f < c) == b) = true then M.sumT (M.partS ((sms xs).take k) f c b) + (M.sAt (sms xs) k).2 else M.sumT (M.partS ((sms xs).take k) f c b)) ∧ (M.partS ((sms xs).take (k + 1)) f c b).length = (if (decide (M.colA (M.sAt (sms xs) k) f < c) == b) = true then (M.partS ((sms xs).take k) f c b).length + 1 else (M.partS ((sms xs).take k) f c b).length)) := fun k hk => M.sum_more (sms xs) f c b (by rw [sms_len]; exact hk)
  clear h A
  generalize M.tB (sms xs) f c b = TT at *
  generalize M.nB (sms xs) f c b = NN at *
  go_enter Tryz.func29, Tryz.ntmps29
  go_wp2
  go_loopw [10, 11, 12] (fun s n i wr => ∃ k : Nat, k ≤ xs.length ∧ i = .int .i64 k ∧ s = .int .i64 (M.sumT (M.partS ((sms xs).take k) f c b)) ∧ n = .int .i64 ((M.partS ((sms xs).take k) f c b).length : Nat) ∧ Hid (wr = w)) (fun _ _ i _ => xs.length - (intOf i).toNat)
  case atStart => exact ⟨0, Nat.zero_le _, rfl, rfl, rfl, rfl⟩
  case round =>
    obtain ⟨k, hk, rfl, rfl, rfl, W⟩ := hrel
    have we := W.out
    subst we
    obtain ⟨b0, b1, b2⟩ := AA.out.in f c b k
    by_cases hlt : k < xs.length
    · obtain ⟨bl, ol, rfl, hbl, hcl⟩ := HL.out.2.2 (by intro e; rw [e] at hlt; simp at hlt)
      obtain ⟨q0, q1⟩ := hcl k hlt
      have hr := AA.out.row xs[k] (List.getElem_mem hlt)
      have ht := AA.out.tgt xs[k] (List.getElem_mem hlt)
      have fr : f < xs[k].2.1.length := by omega
      obtain ⟨bx, ox, ex, hbx, hcx⟩ := (HL.out.2.1 xs[k] (List.getElem_mem hlt)).2 (by intro e; rw [e] at fr; simp at fr)
      have hx := hcx f fr
      have sa := sms_at xs hlt
      have ec : M.colA (M.sAt (sms xs) k) f = xs[k].2.1.getD f 0 := by rw [sa]; rfl
      have et : (M.sAt (sms xs) k).2 = xs[k].2.2.2 := by rw [sa]; rfl
      obtain ⟨sm1, sm2⟩ := SM.out k hlt
      rw [ec, et] at sm1
      rw [ec] at sm2
      have S1 := hide sm1
      have S2 := hide sm2
      unfold sxV at q0
      rw [ex] at q0
      have kz : (k : Int) < (xs.length : Int) := by omega
      have fz : (f : Int) < (xs[k].2.1.length : Int) := by omega
      clear sa ec et sm1 sm2 hcl hcx SM hr fr ex E1 E2
      generalize xs[k].2.2.2 = t at *
      generalize xs[k].2.1.getD f 0 = v at *
      generalize xs[k].2.1.length = rl at *
      generalize xs[k].2.2.1 = rc at *
      generalize M.sumT (M.partS ((sms xs).take k) f c b) = s at *
      generalize (M.partS ((sms xs).take k) f c b).length = n at *
      obtain ⟨t0, t1⟩ := ht
      cases hq : (decide (v < c) == b) with
      | true =>
        have z1 : Hid (M.sumT (M.partS ((sms xs).take (k + 1)) f c b) = s + t) := by unfold Hid; rw [S1.out, if_pos hq]
        have z2 : Hid ((M.partS ((sms xs).take (k + 1)) f c b).length = n + 1) := by unfold Hid; rw [S2.out, if_pos hq]
        clear S1 S2
        go_wp2
        go_roundw
        case rel => exact ⟨k + 1, by omega, by go_num, by rw [z1.out], by rw [z2.out]; go_num, (by first | rfl | trivial)⟩
        case measure => simp [intOf]; omega
      | false =>
        have z1 : Hid (M.sumT (M.partS ((sms xs).take (k + 1)) f c b) = s) := by unfold Hid; rw [S1.out, if_neg (by rw [hq]; decide)]
        have z2 : Hid ((M.partS ((sms xs).take (k + 1)) f c b).length = n) := by unfold Hid; rw [S2.out, if_neg (by rw [hq]; decide)]
        clear S1 S2
        go_wp2
        go_roundw
        case rel => exact ⟨k + 1, by omega, by go_num, by rw [z1.out], by rw [z2.out], (by first | rfl | trivial)⟩
        case measure => simp [intOf]; omega
    · have ke : k = xs.length := by omega
      have e1 : Hid (M.sumT (M.partS ((sms xs).take k) f c b) = TT) := by unfold Hid; rw [E1.out, ke]
      have e2 : Hid (((M.partS ((sms xs).take k) f c b).length : Int) = NN) := by unfold Hid; rw [E2.out, ke]
      clear ke SM E1 E2 HL AA
      generalize M.sumT (M.partS ((sms xs).take k) f c b) = s at *
      generalize (M.partS ((sms xs).take k) f c b).length = n at *
      go_wp2
      go_ret2
      exact ⟨by rw [← e1.out, ← e2.out]; rfl, rfl⟩

end Go.Proofs.YtpblpfleiilehafGreatDoor

namespace Go.Proofs.YtpblpfleiilehafGreatDoor
open Go.ChangeShapes Go.WideShapes Go.ChangeAt Go.RowKit Go.Lib
set_option linter.unusedVariables false

set_option maxHeartbeats 16000000 in
set_option maxRecDepth 10000 in
theorem rsplit_any (a : Option Addr) (xs : List Sx) (ca m : Nat) (least : Int) (w : World) (h : RdL w a xs) (A : Ask xs m) (m8 : m ≤ 8) :
    Calls Tryz.prog 8 #[.slice a xs.length ca, .int .i64 (m : Nat), .int .i64 least] w fun e w' => e = .returned (.tuple #[.int .i64 ((M.spV (sms xs) m least).2.2.1 : Nat), .int .i64 (M.spV (sms xs) m least).2.2.2.1, .bool (M.spV (sms xs) m least).2.2.2.2]) ∧ w' = w := by
  have HL := hide h
  have AA := hide A
  have l60 := A.le
  have E1 : Hid (M.sp0 (sms xs) = (M.sumT ((sms xs).take xs.length) * M.sumT ((sms xs).take xs.length), ((xs.length : Nat) : Int), 0, 0, false)) := by
    unfold Hid M.sp0
    rw [← sms_len xs, List.take_length]
  have SM : Hid (∀ k (hk : k < xs.length), M.sumT ((sms xs).take (k + 1)) = M.sumT ((sms xs).take k) + xs[k].2.2.2) := fun k hk => by
    rw [List.take_succ_eq_append_getElem (by rw [sms_len]; exact hk), M.sumT_app]
    have e : (sms xs)[k]'(by rw [sms_len]; exact hk) = sm xs[k] := by simp [sms]
    rw [e]
    show _ + (xs[k].2.2.2 + 0) = _
    omega
  have CA : Hid (∀ k (hk : k < xs.length) f, M.colA (M.sAt (sms xs) k) f = xs[k].2.1.getD f 0) := fun k hk f => by rw [sms_at xs hk]; rfl
  have SU := hide (fun f c b (hf : f < m) => rsum_any a xs ca m f c b w h A hf)
  obtain ⟨V, hV⟩ : ∃ V, V = M.spV (sms xs) m least := ⟨_, rfl⟩
  rw [← hV]
  have EV := hide hV
  clear h A hV
  go_enter Tryz.func8, Tryz.ntmps8
  go_wp2
  go_loopw [9, 10] (fun s i wr => ∃ k : Nat, k ≤ xs.length ∧ i = .int .i64 k ∧ s = .int .i64 (M.sumT ((sms xs).take k)) ∧ Hid (wr = w)) (fun _ i _ => xs.length - (intOf i).toNat)
  case atStart => exact ⟨0, Nat.zero_le _, rfl, rfl, rfl⟩
  case round =>
    obtain ⟨k, hk, rfl, rfl, W⟩ := hrel
    have we := W.out.symm
    subst we
    obtain ⟨b0, b1⟩ := AA.out.all k
    by_cases hlt : k < xs.length
    · obtain ⟨bl, ol, rfl, hbl, hcl⟩ := HL.out.2.2 (by intro e; rw [e] at hlt; simp at hlt)
      have q1 := (hcl k hlt).2
      obtain ⟨t0, t1⟩ := AA.out.tgt xs[k] (List.getElem_mem hlt)
      have S1 := hide (SM.out k hlt)
      have kz : (k : Int) < (xs.length : Int) := by omega
      clear hcl SM E1 SU CA
      generalize xs[k].2.2.2 = t at *
      generalize M.sumT ((sms xs).take k) = s at *
      go_wp2
      go_roundw
      case rel => exact ⟨k + 1, by omega, by go_num, by rw [S1.out], (by first | rfl | trivial)⟩
      case measure => simp [intOf]; omega
    · have ke : k = xs.length := by omega
      subst ke
      have s2 := M.sqR_in b0 b1
      have w1 : IntKind.i64.wrap (M.sumT ((sms xs).take xs.length) * M.sumT ((sms xs).take xs.length)) = M.sumT ((sms xs).take xs.length) * M.sumT ((sms xs).take xs.length) := wrap_in5 _ (by omega) (by omega)
      clear SM hlt hk s2
      generalize M.sumT ((sms xs).take xs.length) = s at *
      go_wp2
      go_loopw [11, 12, 13, 14, 15, 16] (fun u d fe cu fo i wr => ∃ F : Nat, F ≤ m ∧ i = .int .i64 F ∧ u = .int .i64 (M.spA (sms xs) least F).1 ∧ d = .int .i64 (M.spA (sms xs) least F).2.1 ∧ fe = .int .i64 ((M.spA (sms xs) least F).2.2.1 : Nat) ∧ cu = .int .i64 (M.spA (sms xs) least F).2.2.2.1 ∧ fo = .bool (M.spA (sms xs) least F).2.2.2.2 ∧ Hid (wr = w)) (fun _ _ _ _ _ i _ => m - (intOf i).toNat)
      case atStart =>
        refine ⟨0, Nat.zero_le _, rfl, ?_, ?_, ?_, ?_, ?_, rfl⟩
        · show _ = Value.int .i64 (M.sp0 (sms xs)).1; rw [E1.out]
        · show _ = Value.int .i64 (M.sp0 (sms xs)).2.1; rw [E1.out]
        · show _ = Value.int .i64 ((M.sp0 (sms xs)).2.2.1 : Nat); rw [E1.out]; rfl
        · show _ = Value.int .i64 (M.sp0 (sms xs)).2.2.2.1; rw [E1.out]
        · show _ = Value.bool (M.sp0 (sms xs)).2.2.2.2; rw [E1.out]
      case round =>
        clear w1 b0 b1 E1
        obtain ⟨F, hF, rfl, rfl, rfl, rfl, rfl, rfl, W2⟩ := hrel
        have we2 := W2.out.symm
        subst we2
        by_cases hFm : F < m
        · have SI := AA.out.outer least F
          have NX : Hid (M.spA (sms xs) least (F + 1) = M.spI (sms xs) least F (M.spA (sms xs) least F) xs.length) := by
            unfold Hid
            show M.spI (sms xs) least F (M.spA (sms xs) least F) (sms xs).length = _
            rw [sms_len]
          have Fz : (F : Int) < (m : Int) := by omega
          obtain ⟨st0, hst0⟩ : ∃ st, st = M.spA (sms xs) least F := ⟨_, rfl⟩
          rw [← hst0] at NX SI ⊢
          have ST0 := hide hst0
          clear hst0
          go_wp2
          go_loopw [11, 12, 13, 14, 15, 17] (fun u d fe cu fo i wr => ∃ k : Nat, k ≤ xs.length ∧ i = .int .i64 k ∧ u = .int .i64 (M.spI (sms xs) least F st0 k).1 ∧ d = .int .i64 (M.spI (sms xs) least F st0 k).2.1 ∧ fe = .int .i64 ((M.spI (sms xs) least F st0 k).2.2.1 : Nat) ∧ cu = .int .i64 (M.spI (sms xs) least F st0 k).2.2.2.1 ∧ fo = .bool (M.spI (sms xs) least F st0 k).2.2.2.2 ∧ Hid (wr = w)) (fun _ _ _ _ _ i _ => xs.length - (intOf i).toNat)
          case atStart => exact ⟨0, Nat.zero_le _, rfl, rfl, rfl, rfl, rfl, rfl, rfl⟩
          case round =>
            obtain ⟨k, hk, rfl, rfl, rfl, rfl, rfl, rfl, W3⟩ := hrel
            have we3 := W3.out.symm
            subst we3
            by_cases hlt : k < xs.length
            · have SK := AA.out.inner least SI F k
              obtain ⟨bl, ol, rfl, hbl, hcl⟩ := HL.out.2.2 (by intro e; rw [e] at hlt; simp at hlt)
              have q0 := (hcl k hlt).1
              have fr : F < xs[k].2.1.length := by have := AA.out.row xs[k] (List.getElem_mem hlt); omega
              obtain ⟨bx, ox, ex, hbx, hcx⟩ := (HL.out.2.1 xs[k] (List.getElem_mem hlt)).2 (by intro e; rw [e] at fr; simp at fr)
              have hx := hcx F fr
              unfold sxV at q0
              rw [ex] at q0
              have kz : (k : Int) < (xs.length : Int) := by omega
              have fz : (F : Int) < (xs[k].2.1.length : Int) := by omega
              have NK : Hid (M.spI (sms xs) least F st0 (k + 1) = M.spN (sms xs) least (M.spI (sms xs) least F st0 k) F (xs[k].2.1.getD F 0)) := by
                unfold Hid
                show M.spN (sms xs) least (M.spI (sms xs) least F st0 k) F (M.colA (M.sAt (sms xs) k) F) = _
                rw [CA.out k hlt]
              have T1 := hide (SU.out F (xs[k].2.1.getD F 0) true hFm)
              have T2 := hide (SU.out F (xs[k].2.1.getD F 0) false hFm)
              have UD := AA.out.ud F (xs[k].2.1.getD F 0)
              obtain ⟨a1, a2, a3, a4⟩ := AA.out.two F (xs[k].2.1.getD F 0) true
              obtain ⟨c1, c2, c3, c4⟩ := AA.out.two F (xs[k].2.1.getD F 0) false
              have UE : Hid (M.spU (sms xs) F (xs[k].2.1.getD F 0) = M.tB (sms xs) F (xs[k].2.1.getD F 0) true * M.tB (sms xs) F (xs[k].2.1.getD F 0) true * M.nB (sms xs) F (xs[k].2.1.getD F 0) false + M.tB (sms xs) F (xs[k].2.1.getD F 0) false * M.tB (sms xs) F (xs[k].2.1.getD F 0) false * M.nB (sms xs) F (xs[k].2.1.getD F 0) true) := rfl
              have DE : Hid (M.spD (sms xs) F (xs[k].2.1.getD F 0) = M.nB (sms xs) F (xs[k].2.1.getD F 0) true * M.nB (sms xs) F (xs[k].2.1.getD F 0) false) := rfl
              have OE : Hid (M.okC (sms xs) least F (xs[k].2.1.getD F 0) = !(decide (M.nB (sms xs) F (xs[k].2.1.getD F 0) true < least) || decide (M.nB (sms xs) F (xs[k].2.1.getD F 0) false < least) || decide (M.nB (sms xs) F (xs[k].2.1.getD F 0) true = 0))) := rfl
              have GE : Hid (M.spGt (sms xs) (M.spI (sms xs) least F st0 k) F (xs[k].2.1.getD F 0) = (decide ((M.spI (sms xs) least F st0 k).1 * M.spD (sms xs) F (xs[k].2.1.getD F 0) < M.spU (sms xs) F (xs[k].2.1.getD F 0) * (M.spI (sms xs) least F st0 k).2.1) || ((M.spI (sms xs) least F st0 k).2.2.2.2 && decide (M.spU (sms xs) F (xs[k].2.1.getD F 0) * (M.spI (sms xs) least F st0 k).2.1 = (M.spI (sms xs) least F st0 k).1 * M.spD (sms xs) F (xs[k].2.1.getD F 0)) && decide (F = (M.spI (sms xs) least F st0 k).2.2.1) && decide (xs[k].2.1.getD F 0 < (M.spI (sms xs) least F st0 k).2.2.2.1)))) := rfl
              have NE : Hid (∀ st, M.spN (sms xs) least st F (xs[k].2.1.getD F 0) = if M.okC (sms xs) least F (xs[k].2.1.getD F 0) = true then (if M.spGt (sms xs) st F (xs[k].2.1.getD F 0) = true then (M.spU (sms xs) F (xs[k].2.1.getD F 0), M.spD (sms xs) F (xs[k].2.1.getD F 0), F, xs[k].2.1.getD F 0, true) else st) else st) := fun st => rfl
              have NX2 : Hid (M.spI (sms xs) least F st0 (k + 1) = if M.okC (sms xs) least F (xs[k].2.1.getD F 0) = true then (if M.spGt (sms xs) (M.spI (sms xs) least F st0 k) F (xs[k].2.1.getD F 0) = true then (M.spU (sms xs) F (xs[k].2.1.getD F 0), M.spD (sms xs) F (xs[k].2.1.getD F 0), F, xs[k].2.1.getD F 0, true) else M.spI (sms xs) least F st0 k) else M.spI (sms xs) least F st0 k) := by unfold Hid; rw [NK.out, NE.out]
              clear hcl hcx fr ex SU CA SI NK NE
              obtain ⟨⟨p1, p2⟩, p3, p4⟩ := SK
              obtain ⟨⟨u1, u2⟩, d1, d2⟩ := UD
              generalize M.okC (sms xs) least F (xs[k].2.1.getD F 0) = ok at *
              generalize M.spGt (sms xs) (M.spI (sms xs) least F st0 k) F (xs[k].2.1.getD F 0) = gt at *
              generalize M.spU (sms xs) F (xs[k].2.1.getD F 0) = U at *
              generalize M.spD (sms xs) F (xs[k].2.1.getD F 0) = D at *
              generalize M.tB (sms xs) F (xs[k].2.1.getD F 0) true = s1 at *
              generalize M.tB (sms xs) F (xs[k].2.1.getD F 0) false = s2 at *
              generalize M.nB (sms xs) F (xs[k].2.1.getD F 0) true = n1 at *
              generalize M.nB (sms xs) F (xs[k].2.1.getD F 0) false = n2 at *
              generalize xs[k].2.1.getD F 0 = v at *
              generalize xs[k].2.1.length = rl at *
              generalize xs[k].2.2.1 = rc at *
              generalize M.spI (sms xs) least F st0 k = sk at *
              obtain ⟨up, dn, fe, cu, fo⟩ := sk
              dsimp only at p1 p2 p3 p4 GE NX2
              have next : Hid (∀ (u d : Int) (g : Nat) (x : Int) (o : Bool), M.spI (sms xs) least F st0 (k + 1) = (u, d, g, x, o) → ∃ k_1 : Nat, k_1 ≤ xs.length ∧ Value.int .i64 ((k : Int) + 1) = .int .i64 k_1 ∧ Value.int .i64 u = .int .i64 (M.spI (sms xs) least F st0 k_1).1 ∧ Value.int .i64 d = .int .i64 (M.spI (sms xs) least F st0 k_1).2.1 ∧ Value.int .i64 (g : Nat) = .int .i64 ((M.spI (sms xs) least F st0 k_1).2.2.1 : Nat) ∧ Value.int .i64 x = .int .i64 (M.spI (sms xs) least F st0 k_1).2.2.2.1 ∧ Value.bool o = .bool (M.spI (sms xs) least F st0 k_1).2.2.2.2) := fun u d g x o e => ⟨k + 1, by omega, by simp, by rw [e], by rw [e], by rw [e], by rw [e], by rw [e]⟩
              cases hok : ok with
              | false =>
                have nk : Hid (M.spI (sms xs) least F st0 (k + 1) = (up, dn, fe, cu, fo)) := by unfold Hid; rw [NX2.out, hok]; rfl
                have oe := OE.out
                rw [hok] at oe
                have N2 := hide (next.out _ _ _ _ _ nk.out)
                clear NX2 GE UE DE OE next nk
                by_cases t1 : n1 < least
                · have r1 : decide (n1 < least) = true := decide_eq_true t1
                  clear oe hok t1
                  go_wp2_with (first
                    | (go_at_call 29; have lean := kk; refine T2.out.mono ?_; rintro e w2 ⟨rfl, e2⟩; have e2' := e2.symm; subst e2')
                    | (go_at_call 29; refine T1.out.mono ?_; rintro e w1 ⟨rfl, e1⟩; have e1' := e1.symm; subst e1'; have kk := trivial))
                  go_roundw
                  case rel => obtain ⟨k1, z1, z2, z3, z4, z5, z6, z7⟩ := N2.out; exact ⟨k1, z1, z2, z3, z4, z5, z6, z7, (by first | rfl | trivial)⟩
                  case measure => simp [intOf]; omega
                · have r1 : decide (n1 < least) = false := decide_eq_false t1
                  by_cases t2 : n2 < least
                  · have r2 : decide (n2 < least) = true := decide_eq_true t2
                    clear oe hok t1 t2
                    go_wp2_with (first
                      | (go_at_call 29; have lean := kk; refine T2.out.mono ?_; rintro e w2 ⟨rfl, e2⟩; have e2' := e2.symm; subst e2')
                      | (go_at_call 29; refine T1.out.mono ?_; rintro e w1 ⟨rfl, e1⟩; have e1' := e1.symm; subst e1'; have kk := trivial))
                    go_roundw
                    case rel => obtain ⟨k1, z1, z2, z3, z4, z5, z6, z7⟩ := N2.out; exact ⟨k1, z1, z2, z3, z4, z5, z6, z7, (by first | rfl | trivial)⟩
                    case measure => simp [intOf]; omega
                  · have r2 : decide (n2 < least) = false := decide_eq_false t2
                    have r3 : (n1 == 0) = true := by
                      rw [r1, r2] at oe
                      cases z : decide (n1 = 0) with
                      | true => rw [beq_iff_eq]; exact of_decide_eq_true z
                      | false => rw [z] at oe; cases oe
                    clear oe hok t1 t2
                    go_wp2_with (first
                      | (go_at_call 29; have lean := kk; refine T2.out.mono ?_; rintro e w2 ⟨rfl, e2⟩; have e2' := e2.symm; subst e2')
                      | (go_at_call 29; refine T1.out.mono ?_; rintro e w1 ⟨rfl, e1⟩; have e1' := e1.symm; subst e1'; have kk := trivial))
                    go_roundw
                    case rel => obtain ⟨k1, z1, z2, z3, z4, z5, z6, z7⟩ := N2.out; exact ⟨k1, z1, z2, z3, z4, z5, z6, z7, (by first | rfl | trivial)⟩
                    case measure => simp [intOf]; omega
              | true =>
                have oe := OE.out
                rw [hok] at oe
                have r1 : decide (n1 < least) = false := by cases z : decide (n1 < least) with
                  | false => rfl
                  | true => rw [z] at oe; cases oe
                have r2 : decide (n2 < least) = false := by cases z : decide (n2 < least) with
                  | false => rfl
                  | true => rw [z, r1] at oe; cases oe
                have r3 : (n1 == 0) = false := by cases z : decide (n1 = 0) with
                  | false => rw [beq_eq_false_iff_ne]; exact of_decide_eq_false z
                  | true => rw [z, r1, r2] at oe; cases oe
                have nk : Hid (M.spI (sms xs) least F st0 (k + 1) = if gt = true then (U, D, F, v, true) else (up, dn, fe, cu, fo)) := by unfold Hid; rw [NX2.out, hok]; rfl
                have q1 := M.sqR_in a1 a2
                have q2 := M.sqR_in c1 c2
                have q3 := M.mulp_in q1.1 q1.2 c3 c4
                have q4 := M.mulp_in q2.1 q2.2 a3 a4
                have q5 := M.mulp_in a3 a4 c3 c4
                have q6 := M.mulp_in u1 u2 p3 p4
                have q7 := M.mulp_in p1 p2 d1 d2
                have x1 : IntKind.i64.wrap (s1 * s1) = s1 * s1 := wrap_in5 _ (by omega) (by omega)
                have x2 : IntKind.i64.wrap (s2 * s2) = s2 * s2 := wrap_in5 _ (by omega) (by omega)
                have x3 : IntKind.i64.wrap (s1 * s1 * n2) = s1 * s1 * n2 := wrap_in5 _ (by omega) (by omega)
                have x4 : IntKind.i64.wrap (s2 * s2 * n1) = s2 * s2 * n1 := wrap_in5 _ (by omega) (by omega)
                have x5 : IntKind.i64.wrap (s1 * s1 * n2 + s2 * s2 * n1) = s1 * s1 * n2 + s2 * s2 * n1 := wrap_in5 _ (by omega) (by omega)
                have x6 : IntKind.i64.wrap (n1 * n2) = n1 * n2 := wrap_in5 _ (by omega) (by omega)
                have x7 : IntKind.i64.wrap (U * dn) = U * dn := wrap_in5 _ (by omega) (by omega)
                have x8 : IntKind.i64.wrap (up * D) = up * D := wrap_in5 _ (by omega) (by omega)
                clear NX2 OE oe hok q1 q2 q3 q4 q5 q6 q7
                go_upto_region 21 with (first
                  | (go_at_call 29; have lean := kk; refine T2.out.mono ?_; rintro e w2 ⟨rfl, e2⟩; have e2' := e2.symm; subst e2')
                  | (go_at_call 29; refine T1.out.mono ?_; rintro e w1 ⟨rfl, e1⟩; have e1' := e1.symm; subst e1'; have kk := trivial))
                go_cut [23] from 88 to 98 (fun o wx => o = .int .i64 U ∧ Hid (wx = w))
                case first =>
                  go_wp2
                  go_meet
                  case rel => exact ⟨by rw [UE.out], (by first | rfl | trivial)⟩
                case rest =>
                  obtain ⟨rfl, W4⟩ := hcut
                  have we4 := W4.out.symm
                  subst we4
                  clear x1 x2 x3 x4 x5
                  go_upto_region 22 with fail
                  go_cut [24] from 99 to 101 (fun o wx => o = .int .i64 D ∧ Hid (wx = w))
                  case first =>
                    go_wp2
                    go_meet
                    case rel => exact ⟨by rw [DE.out], (by first | rfl | trivial)⟩
                  case rest =>
                    obtain ⟨rfl, W5⟩ := hcut
                    have we5 := W5.out.symm
                    subst we5
                    clear x6
                    go_upto_region 23 with fail
                    go_cut [130] from 102 to 130 (fun o wx => o = .bool gt ∧ Hid (wx = w))
                    case first =>
                      have ge := GE.out
                      clear GE next nk UE DE
                      by_cases g1 : up * D < U * dn
                      · have y1 : decide (up * D < U * dn) = true := decide_eq_true g1
                        clear g1
                        have E : Hid (true = gt) := by unfold Hid; rw [ge, y1]; rfl
                        clear ge
                        go_wp2
                        go_meet
                        case rel => exact ⟨by rw [E.out], (by first | rfl | trivial)⟩
                      · have y1 : decide (up * D < U * dn) = false := decide_eq_false g1
                        clear g1
                        cases fo with
                        | false =>
                          have E : Hid (false = gt) := by unfold Hid; rw [ge, y1]; rfl
                          clear ge
                          go_wp2
                          go_meet
                          case rel => exact ⟨by rw [E.out], (by first | rfl | trivial)⟩
                        | true =>
                          by_cases g2 : U * dn = up * D
                          · have y2 : decide (U * dn = up * D) = true := decide_eq_true g2
                            have v2 : (U * dn == up * D) = true := by rw [beq_iff_eq]; exact g2
                            clear g2
                            by_cases g3 : F = fe
                            · have y3 : decide (F = fe) = true := decide_eq_true g3
                              have v3 : ((F : Int) == (fe : Int)) = true := by rw [beq_iff_eq]; omega
                              have Y3 := hide y3
                              clear g3 y3
                              by_cases g4 : v < cu
                              · have y4 : decide (v < cu) = true := decide_eq_true g4
                                clear g4
                                have E : Hid (true = gt) := by unfold Hid; rw [ge, y1, y2, Y3.out, y4]; rfl
                                clear ge
                                go_wp2
                                go_meet
                                case rel => exact ⟨by rw [E.out], (by first | rfl | trivial)⟩
                              · have y4 : decide (v < cu) = false := decide_eq_false g4
                                clear g4
                                have E : Hid (false = gt) := by unfold Hid; rw [ge, y1, y2, Y3.out, y4]; rfl
                                clear ge
                                go_wp2
                                go_meet
                                case rel => exact ⟨by rw [E.out], (by first | rfl | trivial)⟩
                            · have y3 : decide (F = fe) = false := decide_eq_false g3
                              have v3 : ((F : Int) == (fe : Int)) = false := by rw [beq_eq_false_iff_ne]; omega
                              have Y3 := hide y3
                              clear g3 y3
                              have E : Hid (false = gt) := by unfold Hid; rw [ge, y1, y2, Y3.out]; rfl
                              clear ge
                              go_wp2
                              go_meet
                              case rel => exact ⟨by rw [E.out], (by first | rfl | trivial)⟩
                          · have y2 : decide (U * dn = up * D) = false := decide_eq_false g2
                            have v2 : (U * dn == up * D) = false := by rw [beq_eq_false_iff_ne]; exact g2
                            clear g2
                            have E : Hid (false = gt) := by unfold Hid; rw [ge, y1, y2]; rfl
                            clear ge
                            go_wp2
                            go_meet
                            case rel => exact ⟨by rw [E.out], (by first | rfl | trivial)⟩
                    case rest =>
                      obtain ⟨rfl, W6⟩ := hcut
                      have we6 := W6.out.symm
                      subst we6
                      clear x7 x8 GE UE DE
                      cases gt with
                      | true =>
                        have N2 := hide (next.out U D F v true (by rw [nk.out]; rfl))
                        clear next nk
                        go_wp2
                        go_roundw
                        case rel => obtain ⟨k1, z1, z2, z3, z4, z5, z6, z7⟩ := N2.out; exact ⟨k1, z1, z2, z3, z4, z5, z6, z7, (by first | rfl | trivial)⟩
                        case measure => simp [intOf]; omega
                      | false =>
                        have N2 := hide (next.out up dn fe cu fo (by rw [nk.out]; rfl))
                        clear next nk
                        go_wp2
                        go_roundw
                        case rel => obtain ⟨k1, z1, z2, z3, z4, z5, z6, z7⟩ := N2.out; exact ⟨k1, z1, z2, z3, z4, z5, z6, z7, (by first | rfl | trivial)⟩
                        case measure => simp [intOf]; omega
            · have ke : k = xs.length := by omega
              have NE : Hid (M.spI (sms xs) least F st0 k = M.spA (sms xs) least (F + 1)) := by unfold Hid; rw [NX.out, ke]
              clear NX
              generalize M.spI (sms xs) least F st0 k = sk at *
              go_wp2
              go_roundw
              case rel => exact ⟨F + 1, by omega, by go_num, by rw [← NE.out], by rw [← NE.out], by rw [← NE.out], by rw [← NE.out], by rw [← NE.out], (by first | rfl | trivial)⟩
              case measure => simp [intOf]; omega
        · have Fe : F = m := by omega
          have VE : Hid (V = M.spA (sms xs) least F) := by unfold Hid; rw [EV.out, Fe]; rfl
          clear Fe EV
          generalize M.spA (sms xs) least F = sk at *
          go_wp2
          go_ret3
          exact ⟨by rw [VE.out]; rfl, rfl⟩

end Go.Proofs.YtpblpfleiilehafGreatDoor
