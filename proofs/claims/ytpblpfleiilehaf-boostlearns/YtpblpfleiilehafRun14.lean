/-
  Several texts as one: SaPart, GroMean, GroNum, GroLeaf.
-/
import Derived.Test.YtpblpfleiilehafRun7
import Derived.Test.YtpblpfleiilehafRun11
import Derived.Deep.Cut
import Derived.Deep.CutRange
namespace Go.Proofs.Ytpblpfleiilehaf
open Go.ChangeShapes Go.WideShapes Go.ChangeAt Go.RowKit Go.Lib
set_option linter.unusedVariables false

theorem M.part_more (l : List M.Sa) (f : Nat) (c : Int) (b : Bool) {k : Nat} (hk : k < l.length) : M.partS (l.take (k + 1)) f c b = if (decide (M.colA (M.sAt l k) f < c) == b) = true then M.partS (l.take k) f c b ++ [M.sAt l k] else M.partS (l.take k) f c b := by
  have e : M.sAt l k = l[k] := by unfold M.sAt; rw [M.getD_at hk]
  unfold M.partS
  rw [List.take_succ_eq_append_getElem hk, List.filter_append, e]
  by_cases q : (decide (M.colA l[k] f < c) == b) = true
  · rw [if_pos q, List.filter_cons_of_pos (by exact q)]; rfl
  · rw [if_neg q, List.filter_cons_of_neg (by exact q)]; simp
theorem M.sum_more (l : List M.Sa) (f : Nat) (c : Int) (b : Bool) {k : Nat} (hk : k < l.length) : M.sumT (M.partS (l.take (k + 1)) f c b) = (if (decide (M.colA (M.sAt l k) f < c) == b) = true then M.sumT (M.partS (l.take k) f c b) + (M.sAt l k).2 else M.sumT (M.partS (l.take k) f c b)) ∧ (M.partS (l.take (k + 1)) f c b).length = (if (decide (M.colA (M.sAt l k) f < c) == b) = true then (M.partS (l.take k) f c b).length + 1 else (M.partS (l.take k) f c b).length) := by
  rw [M.part_more l f c b hk]
  split
  · refine ⟨?_, by simp⟩
    rw [M.sumT_app]
    show _ + ((M.sAt l k).2 + 0) = _
    omega
  · exact ⟨rfl, rfl⟩

/-- samples that may be asked for a feature -/
structure Ask (xs : List Sx) (m : Nat) : Prop where
  le : xs.length ≤ 60
  row : ∀ x ∈ xs, x.2.1.length = m
  tgt : ∀ x ∈ xs, -1000 ≤ x.2.2.2 ∧ x.2.2.2 ≤ 1000
theorem Ask.of {xs : List Sx} {m : Nat} (h : M.GoodS (sms xs) m) : Ask xs m :=
  ⟨by have := h.le; rw [sms_len] at this; exact this, fun x hx => (h.each (sm x) (List.mem_map.2 ⟨x, hx, rfl⟩)).2.1, fun x hx => (h.each (sm x) (List.mem_map.2 ⟨x, hx, rfl⟩)).2.2.1⟩
theorem Ask.in {xs : List Sx} {m : Nat} (h : Ask xs m) (f : Nat) (c : Int) (b : Bool) (k : Nat) : -60000 ≤ M.sumT (M.partS ((sms xs).take k) f c b) ∧ M.sumT (M.partS ((sms xs).take k) f c b) ≤ 60000 ∧ (M.partS ((sms xs).take k) f c b).length ≤ 60 := by
  have l1 : (M.partS ((sms xs).take k) f c b).length ≤ 60 := by
    refine Nat.le_trans (List.length_filter_le _ _) ?_
    rw [List.length_take, sms_len]
    have := h.le
    omega
  have := M.sum_in (l := M.partS ((sms xs).take k) f c b) fun s hs => by
    have h1 := List.mem_of_mem_take (List.mem_filter.1 hs).1
    obtain ⟨x, hx, rfl⟩ := List.mem_map.1 h1
    exact h.tgt x hx
  omega

/-- the samples of one side, where their rows lie -/
def partX (xs : List Sx) (f : Nat) (c : Int) (b : Bool) : List Sx := xs.filter fun x => decide (x.2.1.getD f 0 < c) == b
theorem partX_sms (xs : List Sx) (f : Nat) (c : Int) (b : Bool) : sms (partX xs f c b) = M.partS (sms xs) f c b := by
  unfold sms partX M.partS
  rw [List.filter_map]
  rfl
theorem partX_more (xs : List Sx) (f : Nat) (c : Int) (b : Bool) {k : Nat} (hk : k < xs.length) : partX (xs.take (k + 1)) f c b = if (decide (xs[k].2.1.getD f 0 < c) == b) = true then partX (xs.take k) f c b ++ [xs[k]] else partX (xs.take k) f c b := by
  unfold partX
  rw [List.take_succ_eq_append_getElem hk, List.filter_append]
  by_cases q : (decide (xs[k].2.1.getD f 0 < c) == b) = true
  · rw [if_pos q, List.filter_cons_of_pos (by exact q)]; rfl
  · rw [if_neg q, List.filter_cons_of_neg (by exact q)]; simp
theorem partX_mem {xs : List Sx} {f : Nat} {c : Int} {b : Bool} {x : Sx} (h : x ∈ partX xs f c b) : x ∈ xs := (List.mem_filter.1 h).1
theorem Ask.part {xs : List Sx} {m : Nat} (h : Ask xs m) (f : Nat) (c : Int) (b : Bool) : Ask (partX xs f c b) m :=
  ⟨Nat.le_trans (List.length_filter_le _ _) h.le, fun x hx => h.row x (partX_mem hx), fun x hx => h.tgt x (partX_mem hx)⟩

theorem wrap_in5 (x : Int) (h1 : -9223372036854775808 ≤ x) (h2 : x ≤ 9223372036854775807) : IntKind.i64.wrap x = x := by
  simp [IntKind.wrap, IntKind.bits, IntKind.signed]
  split <;> omega
theorem M.sqR_in {s B : Int} (h1 : -B ≤ s) (h2 : s ≤ B) : 0 ≤ s * s ∧ s * s ≤ B * B := by
  by_cases h : 0 ≤ s
  · exact ⟨Int.mul_nonneg h h, Int.mul_le_mul h2 h2 h (by omega)⟩
  · have e : s * s = (-s) * (-s) := by grind
    rw [e]
    exact ⟨Int.mul_nonneg (by omega) (by omega), Int.mul_le_mul (by omega) (by omega) (by omega) (by omega)⟩
theorem M.mulp_in {a b A B : Int} (h1 : 0 ≤ a) (h2 : a ≤ A) (h3 : 0 ≤ b) (h4 : b ≤ B) : 0 ≤ a * b ∧ a * b ≤ A * B := ⟨Int.mul_nonneg h1 h3, Int.mul_le_mul h2 h4 h3 (by omega)⟩
theorem Ask.two {xs : List Sx} {m : Nat} (h : Ask xs m) (f : Nat) (c : Int) (b : Bool) : -60000 ≤ M.tB (sms xs) f c b ∧ M.tB (sms xs) f c b ≤ 60000 ∧ 0 ≤ M.nB (sms xs) f c b ∧ M.nB (sms xs) f c b ≤ 60 := by
  have := h.in f c b xs.length
  rw [← sms_len xs, List.take_length] at this
  unfold M.tB M.nB
  omega
theorem Ask.all {xs : List Sx} {m : Nat} (h : Ask xs m) (k : Nat) : -60000 ≤ M.sumT ((sms xs).take k) ∧ M.sumT ((sms xs).take k) ≤ 60000 := by
  have l1 : ((sms xs).take k).length ≤ 60 := by
    rw [List.length_take, sms_len]
    have := h.le
    omega
  have := M.sum_in (l := (sms xs).take k) fun s hs => by
    obtain ⟨x, hx, rfl⟩ := List.mem_map.1 (List.mem_of_mem_take hs)
    exact h.tgt x hx
  omega
theorem Ask.ud {xs : List Sx} {m : Nat} (h : Ask xs m) (f : Nat) (c : Int) : (0 ≤ M.spU (sms xs) f c ∧ M.spU (sms xs) f c ≤ 432000000000) ∧ (0 ≤ M.spD (sms xs) f c ∧ M.spD (sms xs) f c ≤ 3600) := by
  obtain ⟨a1, a2, a3, a4⟩ := h.two f c true
  obtain ⟨b1, b2, b3, b4⟩ := h.two f c false
  have s1 := M.sqR_in a1 a2
  have s2 := M.sqR_in b1 b2
  have u1 := M.mulp_in s1.1 s1.2 b3 b4
  have u2 := M.mulp_in s2.1 s2.2 a3 a4
  have d := M.mulp_in a3 a4 b3 b4
  unfold M.spU M.spD
  omega
theorem Ask.st {xs : List Sx} {m : Nat} (h : Ask xs m) (least : Int) : (0 ≤ (M.sp0 (sms xs)).1 ∧ (M.sp0 (sms xs)).1 ≤ 432000000000) ∧ (0 ≤ (M.sp0 (sms xs)).2.1 ∧ (M.sp0 (sms xs)).2.1 ≤ 3600) := by
  have := h.all xs.length
  rw [← sms_len xs, List.take_length] at this
  have s := M.sqR_in this.1 this.2
  have := h.le
  have e : (M.sp0 (sms xs)).2.1 = (xs.length : Nat) := by show (((sms xs).length : Nat) : Int) = _; rw [sms_len]
  rw [e]
  refine ⟨⟨s.1, ?_⟩, by omega, by omega⟩
  show M.sumT (sms xs) * M.sumT (sms xs) ≤ _
  omega
def StIn (st : M.SpS) : Prop := (0 ≤ st.1 ∧ st.1 ≤ 432000000000) ∧ (0 ≤ st.2.1 ∧ st.2.1 ≤ 3600)
theorem Ask.step {xs : List Sx} {m : Nat} (h : Ask xs m) (least : Int) {st : M.SpS} (hs : StIn st) (f : Nat) (c : Int) : StIn (M.spN (sms xs) least st f c) := by
  unfold M.spN
  split
  · split
    · exact h.ud f c
    · exact hs
  · exact hs
theorem Ask.inner {xs : List Sx} {m : Nat} (h : Ask xs m) (least : Int) {st : M.SpS} (hs : StIn st) (f : Nat) : ∀ k, StIn (M.spI (sms xs) least f st k)
  | 0 => hs
  | k + 1 => h.step least (h.inner least hs f k) f _
theorem Ask.outer {xs : List Sx} {m : Nat} (h : Ask xs m) (least : Int) : ∀ f, StIn (M.spA (sms xs) least f)
  | 0 => h.st least
  | f + 1 => h.inner least (h.outer least f) f _

end Go.Proofs.Ytpblpfleiilehaf

namespace Go.Proofs.Ytpblpfleiilehaf
open Go.ChangeShapes Go.WideShapes Go.ChangeAt Go.RowKit Go.Lib
set_option linter.unusedVariables false

theorem fit_far (n : Int) (w : World) (h1 : -1000000 ≤ n) (h2 : n ≤ 1000000) :
    Calls Try.prog 93 #[.int .i64 n] w fun e w' => e = .returned (.int .i64 n) ∧ w' = w := by
  go_enter Try.func93, Try.ntmps93
  go_wp2
  go_ret
  exact ⟨rfl, rfl⟩
theorem down_far (a b : Int) (w : World) (hb : 0 < b) (hb2 : b ≤ 9007199254740992) (ha : -9007199254740992 ≤ a) (ha2 : a ≤ 9007199254740992) :
    Calls Try.prog 97 #[.int .i64 a, .int .i64 b] w fun e w' => e = .returned (.int .i64 (a / b)) ∧ w' = w := by
  obtain ⟨q1, q2⟩ := M.tdiv_bd a b 9007199254740992 hb ha ha2
  have D := hide (M.down_eq a b hb)
  by_cases h : a.tmod b < 0
  · go_enter Try.func97, Try.ntmps97
    go_wp2
    go_ret
    exact ⟨ret_int (by rw [← D.out, if_pos h]), rfl⟩
  · go_enter Try.func97, Try.ntmps97
    go_wp2
    go_ret
    exact ⟨ret_int (by rw [← D.out, if_neg (by omega)]), rfl⟩

theorem fill_step {w wr : World} {B n k : Nat} {F : List Int} {x : Int} (hF : F.length = n) (hk : k < n) (hx : x = F[k])
    (hown : wr.ownsRow B 3 1 (.slice (some ⟨B, 0, none⟩) n n) n ((M.fillI F k).map (Value.int .i64))) (hbl : Below B w wr) :
    (wr.setCell ⟨B, k, none⟩ (.int .i64 x)).ownsRow B 3 1 (.slice (some ⟨B, 0, none⟩) n n) n ((M.fillI F (k + 1)).map (Value.int .i64)) ∧ Below B w (wr.setCell ⟨B, k, none⟩ (.int .i64 x)) := by
  subst hx
  refine ⟨?_, hbl.setCell (Nat.le_refl _) _⟩
  have := (hown.stored k (.int .i64 F[k])).1
  rw [← M.fill_set F k (by omega), List.map_set]
  exact this

set_option maxHeartbeats 1000000 in
theorem counted_far (a : Option Addr) (xs : List Int) (cap : Nat) (w : World) (h : Rd w a xs) (hn : xs.length ≤ 60) (h0 : 0 < xs.length) (hv : ∀ x ∈ xs, -1000000 ≤ x ∧ x ≤ 1000000) :
    Calls Try.prog 96 #[.slice a xs.length cap] w fun e w' => e = .returned (.slice (some ⟨w.heap.size, 0, none⟩) xs.length xs.length) ∧
      w'.ownsRow w.heap.size 3 1 (.slice (some ⟨w.heap.size, 0, none⟩) xs.length xs.length) xs.length (xs.map (Value.int .i64)) ∧ Below w.heap.size w w' := by
  obtain ⟨i0, hi, hz0, hz1, hz2⟩ := info_parts info3
  obtain ⟨b, off, rfl, hb, hc⟩ := h.2 (by intro e; rw [e] at h0; simp at h0)
  have HV := hide hv
  have HC := hide hc
  clear h hv hc h0
  have mn : min (xs.length : Int) 1000 = (xs.length : Int) := by omega
  obtain ⟨n, hn'⟩ : ∃ n, n = xs.length := ⟨_, rfl⟩
  have HN := hide hn'
  rw [← hn'] at hn mn ⊢
  have n1000 : ¬ (1000 : Int) < (n : Int) := by omega
  have nle : (n : Int) ≤ 1000 := by omega
  have FA : Hid (M.fillI xs n = xs) := by unfold Hid; rw [hn']; exact M.fill_all xs
  clear hn' mn
  go_enter Try.func96, Try.ntmps96
  go_wp2_with (at_make; refine wpList_make_full _ rfl (.tmp 7) (.tmp 7) 23 rfl w.heap.size 3 i0 (.int .i64 0) 1 Try.underlying23 hi hz0 hz1 .i64 .i64 _ _ n rfl rfl (by omega) (by omega) (by rw [hz2]; omega) (by unfold maxLen; omega) (Nat.le_refl _) ?_; intro w1 hown hgrow)
  rw [made] at hown
  have hB : Hid (Below w.heap.size w w1) := (Below.refl _ w).grown hgrow (Nat.le_refl _) (fun k hk => by cases hk)
  have ho : Hid (w1.ownsRow w.heap.size 3 1 (.slice (some ⟨w.heap.size, 0, none⟩) n n) n ((M.fillI xs 0).map (Value.int .i64))) := by
    unfold Hid; rw [M.fill_zero, ← HN.out]; exact hown
  clear hown hgrow hi hz0 hz1 hz2
  go_loopw [11] (fun i wr => ∃ k : Nat, k ≤ n ∧ i = .int .i64 k ∧ Hid (wr.ownsRow w.heap.size 3 1 (.slice (some ⟨w.heap.size, 0, none⟩) n n) n ((M.fillI xs k).map (Value.int .i64))) ∧ Hid (Below w.heap.size w wr)) (fun i _ => n - (intOf i).toNat)
  case atStart => exact ⟨0, Nat.zero_le _, rfl, ho, hB⟩
  case round =>
    obtain ⟨k, hk, rfl, HO, K⟩ := hrel
    clear ho hB
    by_cases hlt : k < n
    · have kl : k < xs.length := by rw [← HN.out]; exact hlt
      have hck := (K.out.cell (p := ⟨b, off + k, none⟩) hb).trans (Rd.at HC.out k kl)
      have hfz := HO.out.frozenAt k
      have hcell := HO.out.cellAt k (by omega)
      have hlen : k < ((M.fillI xs k).map (Value.int .i64)).length := by rw [List.length_map, M.fill_len _ _ (by omega)]; exact kl
      rw [List.getElem?_eq_getElem hlen] at hcell
      obtain ⟨v0, v1⟩ := HV.out xs[k] (List.getElem_mem kl)
      have HR := hide (fill_step (w := w) HN.out.symm hlt rfl HO.out K.out)
      have nz : xs.length = n := HN.out.symm
      have kz : (k : Int) < (n : Int) := by omega
      have NZ := hide nz
      have kz2 : (k : Int) < (xs.length : Int) := by omega
      clear HC HV HO nz
      generalize xs[k] = v at *
      clear kl
      go_wp2_with (go_at_call 93; refine (fit_far _ _ (by omega) (by omega)).mono ?_; rintro e w' ⟨rfl, rfl⟩)
      go_roundw
      case rel => exact ⟨k + 1, by omega, by go_num, HR.out.1, HR.out.2⟩
      case measure => simp [intOf]; omega
    · have ke : k = n := by omega
      have ho := HO.out
      rw [ke, FA.out] at ho
      have HO2 := hide ho
      clear ho HO ke HC HV
      go_wp2
      go_ret
      exact ⟨rfl, HO2.out, K.out⟩

theorem M.sumL_bd : ∀ {l : List Int}, (∀ x ∈ l, -1000000 ≤ x ∧ x ≤ 1000000) → -1000000 * (l.length : Nat) ≤ l.sum ∧ l.sum ≤ 1000000 * (l.length : Nat)
  | [], _ => by simp
  | x :: l, h => by
    have ih := M.sumL_bd (l := l) fun y hy => h y (List.mem_cons_of_mem _ hy)
    have h1 := h x (List.mem_cons_self ..)
    rw [List.sum_cons, List.length_cons]
    omega

set_option maxHeartbeats 1000000 in
theorem mean_far (a : Option Addr) (xs : List Int) (cap : Nat) (w : World) (h : Rd w a xs) (hn : xs.length ≤ 60) (h0 : 0 < xs.length) (hv : ∀ x ∈ xs, -1000000 ≤ x ∧ x ≤ 1000000) :
    Calls Try.prog 78 #[.slice a xs.length cap] w fun e w' => e = .returned (.int .i64 (xs.sum / (xs.length : Nat))) ∧ Below w.heap.size w w' := by
  have C := hide (counted_far a xs cap w h hn h0 hv)
  have SB : Hid (∀ k, -60000000 ≤ (xs.take k).sum ∧ (xs.take k).sum ≤ 60000000) := fun k => by
    have := M.sumL_bd (l := xs.take k) fun x hx => hv x (List.mem_of_mem_take hx)
    have l : (xs.take k).length ≤ 60 := by rw [List.length_take]; omega
    omega
  have SS : Hid (∀ k (hk : k < xs.length), (xs.take (k + 1)).sum = (xs.take k).sum + xs[k]) := fun k hk => by
    rw [List.take_succ_eq_append_getElem hk, List.sum_append]; simp
  have Z : Hid (xs.take xs.length = xs) := List.take_length
  have HV := hide hv
  have hz : ((xs.length : Int) == 0) = false := by rw [beq_eq_false_iff_ne]; omega
  clear h hv
  go_enter Try.func78, Try.ntmps78
  go_wp2_with (go_at_call 96; refine C.out.mono ?_; rintro e w1 ⟨rfl, hown, hbl⟩)
  have OA := hide (own_at hown rfl)
  have BL := hide hbl
  clear hown C hbl
  go_loop [4, 14] (fun t i => ∃ k : Nat, k ≤ xs.length ∧ i = .int .i64 k ∧ t = .int .i64 (xs.take k).sum) (fun _ i => xs.length - (intOf i).toNat)
  case atStart => exact ⟨0, Nat.zero_le _, rfl, rfl⟩
  case round =>
    obtain ⟨k, hk, rfl, rfl⟩ := hrel
    obtain ⟨s1, s2⟩ := SB.out k
    by_cases hlt : k < xs.length
    · have hck := OA.out k hlt
      have S := hide (SS.out k hlt)
      obtain ⟨v0, v1⟩ := HV.out xs[k] (List.getElem_mem hlt)
      have kz : (k : Int) < (xs.length : Int) := by omega
      clear SS SB OA HV Z
      generalize (xs.take k).sum = s at *
      generalize xs[k] = v at *
      go_wp2
      go_round
      case rel => exact ⟨k + 1, by omega, by go_num, by rw [S.out]⟩
      case measure => simp [intOf]; omega
    · have ke : k = xs.length := by omega
      have E : Hid ((xs.take k).sum = xs.sum) := by unfold Hid; rw [ke, Z.out]
      clear SS SB OA HV Z ke
      generalize (xs.take k).sum = s at *
      have dn := hide (down_far s (xs.length : Nat) w1 (by omega) (by omega) (by omega) (by omega))
      go_wp2_with (go_at_call 97; refine dn.out.mono ?_; rintro e w2 ⟨rfl, e2⟩; have e2' := e2.symm; subst e2')
      go_ret
      exact ⟨ret_int (by rw [E.out]), BL.out⟩

end Go.Proofs.Ytpblpfleiilehaf

namespace Go.Proofs.Ytpblpfleiilehaf
open Go.ChangeShapes Go.WideShapes Go.ChangeAt Go.RowKit Go.Lib
set_option linter.unusedVariables false

set_option maxHeartbeats 4000000 in
theorem more_any (a b c d : Int) (w : World) (h1 : IntKind.i64.wrap (a * d) = a * d) (h2 : IntKind.i64.wrap (c * b) = c * b) :
    Calls Try.prog 60 #[.agg #[.int .i64 a, .int .i64 b], .agg #[.int .i64 c, .int .i64 d]] w fun e w' => e = .returned (.bool (decide (c * b < a * d))) ∧ Below w.heap.size w w' := by
  have KA : Hid (∀ o p, Below w.heap.size w ((w.alloc o).alloc p)) := fun o p => ((Below.refl _ w).alloc (Nat.le_refl _) o).alloc (by simp) p
  go_enter Try.func60, Try.ntmps60
  go_wp2
  go_ret
  exact ⟨rfl, KA.out _ _⟩

set_option maxHeartbeats 4000000 in
theorem plus_any (a b c d : Int) (w : World) (h1 : IntKind.i64.wrap (a * d) = a * d) (h2 : IntKind.i64.wrap (c * b) = c * b) (h3 : IntKind.i64.wrap (a * d + c * b) = a * d + c * b) (h4 : IntKind.i64.wrap (b * d) = b * d) :
    Calls Try.prog 59 #[.agg #[.int .i64 a, .int .i64 b], .agg #[.int .i64 c, .int .i64 d]] w fun e w' => e = .returned (.agg #[.int .i64 (a * d + c * b), .int .i64 (b * d)]) ∧ Below w.heap.size w w' := by
  have KA : Hid (∀ o p q, Below w.heap.size w (((w.alloc o).alloc p).alloc q)) := fun o p q => (((Below.refl _ w).alloc (Nat.le_refl _) o).alloc (by simp) p).alloc (by simp; omega) q
  go_enter Try.func59, Try.ntmps59
  go_wp2
  refine bodyPost_ret (v := .agg #[.int .i64 (a * d + c * b), .int .i64 (b * d)]) (by simp [results, Try.results59, go_sem]) rfl ?_
  exact ⟨rfl, KA.out _ _ _⟩

set_option maxHeartbeats 4000000 in
set_option maxRecDepth 10000 in
theorem putright_any (a : Option Addr) (xs : List Sx) (ca m : Nat) (w : World) (h : RdL w a xs) (A : Ask xs m) :
    Calls Try.prog 57 #[.slice a xs.length ca] w fun e w' => e = .returned (.agg #[.int .i64 (M.sumT (sms xs) * M.sumT (sms xs)), .int .i64 (xs.length : Nat)]) ∧ Below w.heap.size w w' := by
  have HL := hide h
  have AA := hide A
  have l60 := A.le
  have SM : Hid (∀ k (hk : k < xs.length), M.sumT ((sms xs).take (k + 1)) = M.sumT ((sms xs).take k) + xs[k].2.2.2) := fun k hk => by
    rw [List.take_succ_eq_append_getElem (by rw [sms_len]; exact hk), M.sumT_app]
    have e : (sms xs)[k]'(by rw [sms_len]; exact hk) = sm xs[k] := by simp [sms]
    rw [e]
    show _ + (xs[k].2.2.2 + 0) = _
    omega
  have ME : Hid (M.sumT ((sms xs).take xs.length) = M.sumT (sms xs)) := by unfold Hid; rw [← sms_len xs, List.take_length]
  obtain ⟨w1, hw1⟩ : ∃ W, W = w.alloc (.cells #[.int .i64 0, .int .i64 0] 98) := ⟨_, rfl⟩
  have s1 : w1.heap.size = w.heap.size + 1 := by rw [hw1]; simp
  have K1 : Hid (Below w.heap.size w w1) := by unfold Hid; rw [hw1]; exact (Below.refl _ w).alloc (Nat.le_refl _) _
  have B1 : Hid (∀ W, Below w1.heap.size w1 W → W.cell? ⟨w.heap.size, 0, none⟩ = some (.int .i64 0) ∧ W.cell? ⟨w.heap.size, 1, none⟩ = some (.int .i64 0) ∧ ∀ j, W.frozen? ⟨w.heap.size, j, none⟩ = false) := fun W hW => by
    have lt : w.heap.size < w1.heap.size := by omega
    refine ⟨(hW.cell (p := ⟨w.heap.size, 0, none⟩) lt).trans (by rw [hw1]; exact World.cell?_alloc_at _ _ _ 0 rfl), (hW.cell (p := ⟨w.heap.size, 1, none⟩) lt).trans (by rw [hw1]; exact World.cell?_alloc_at _ _ _ 1 rfl), fun j => ?_⟩
    have f := frozen_new2 w #[.int .i64 0, .int .i64 0] 98 j
    rw [← hw1] at f
    rw [← f]
    unfold World.frozen?
    rw [hW.block _ lt]
  have S1 := hide s1
  have HW := hide hw1
  clear h A s1 hw1
  generalize M.sumT (sms xs) = TT at *
  go_enter Try.func57, Try.ntmps57
  go_upto_region 1 with fail
  rw [← HW.out]
  go_wp2
  go_loopw [3, 8] (fun s i wr => ∃ k : Nat, k ≤ xs.length ∧ i = .int .i64 k ∧ s = .int .i64 (M.sumT ((sms xs).take k)) ∧ Hid (Below w1.heap.size w1 wr)) (fun _ i _ => xs.length - (intOf i).toNat)
  case atStart => exact ⟨0, Nat.zero_le _, rfl, rfl, Below.refl _ _⟩
  case round =>
    obtain ⟨k, hk, rfl, rfl, K⟩ := hrel
    obtain ⟨b0, b1⟩ := AA.out.all k
    by_cases hlt : k < xs.length
    · obtain ⟨bl, ol, rfl, hbl, hcl⟩ := (HL.out.below (below_on K1.out K.out)).2.2 (by intro e; rw [e] at hlt; simp at hlt)
      obtain ⟨c0, c1⟩ := hcl k hlt
      obtain ⟨t0, t1⟩ := AA.out.tgt xs[k] (List.getElem_mem hlt)
      have S := hide (SM.out k hlt)
      have UA : Hid (∀ o, Below w1.heap.size w1 (wr.alloc o)) := fun o => below_on K.out ((Below.refl _ wr).alloc (Nat.le_refl _) o)
      have kz : (k : Int) < (xs.length : Int) := by omega
      unfold sxV at c0
      clear hcl SM ME HL AA B1 HW
      generalize xs[k].2.2.2 = t at *
      generalize xs[k].2.1.length = rl at *
      generalize xs[k].2.2.1 = rc at *
      generalize xs[k].1 = ra at *
      generalize M.sumT ((sms xs).take k) = s at *
      go_wp2
      go_roundw
      case rel => exact ⟨k + 1, by omega, by go_num, by rw [S.out], UA.out _⟩
      case measure => simp [intOf]; omega
    · have ke : k = xs.length := by omega
      have E : Hid (M.sumT ((sms xs).take k) = TT) := by unfold Hid; rw [ke]; exact ME.out
      obtain ⟨x0, x1, x2⟩ := B1.out wr K.out
      have f0 := x2 0
      have f1 := x2 1
      clear x2 SM ME HL AA ke B1 HW
      generalize M.sumT ((sms xs).take k) = s at *
      have q := M.sqR_in (s := s) (B := 60000) (by omega) (by omega)
      have x3 : IntKind.i64.wrap (s * s) = s * s := wrap_in5 _ (by omega) (by omega)
      clear q
      go_wp2
      obtain ⟨e0, e1⟩ := set2 (x0 := .int .i64 (s * s)) (x1 := .int .i64 (xs.length : Nat)) x0 x1
      refine bodyPost_ret (v := .agg #[.int .i64 (s * s), .int .i64 (xs.length : Nat)]) (by simp [results, Try.results57, go_sem, e0, e1]) rfl ?_
      exact ⟨by rw [E.out], below2 (below_on K1.out K.out) (by omega)⟩

end Go.Proofs.Ytpblpfleiilehaf

namespace Go.Proofs.Ytpblpfleiilehaf
open Go.ChangeShapes Go.WideShapes Go.ChangeAt Go.RowKit Go.Lib
set_option linter.unusedVariables false

def tgtL (xs : List Sx) : List Int := xs.map fun x => x.2.2.2
theorem tgtL_len (xs : List Sx) : (tgtL xs).length = xs.length := by simp [tgtL]
theorem tgtL_at (xs : List Sx) {k : Nat} (h : k < xs.length) : (tgtL xs)[k]'(by rw [tgtL_len]; exact h) = xs[k].2.2.2 := by simp [tgtL]
theorem tgtL_sum : ∀ xs : List Sx, (tgtL xs).sum = M.sumT (sms xs)
  | [] => rfl
  | x :: xs => by
    have ih := tgtL_sum xs
    show (x.2.2.2 :: tgtL xs).sum = x.2.2.2 + M.sumT (sms xs)
    rw [List.sum_cons, ih]
set_option maxHeartbeats 4000000 in
set_option maxRecDepth 10000 in
theorem leafof_any (a : Option Addr) (xs : List Sx) (ca m : Nat) (w : World) (h : RdL w a xs) (A : Ask xs m) (hp : 0 < xs.length) :
    Calls Try.prog 52 #[.slice a xs.length ca] w fun e w' => e = .returned (.agg #[.int .i64 (-1), .int .i64 0, .int .i64 0, .int .i64 0, .bool false, .int .i64 (M.meanS (sms xs))]) ∧ Below w.heap.size w w' := by
  have HL := hide h
  have AA := hide A
  have l60 := A.le
  obtain ⟨i0, hi, hz0, hz1, hz2⟩ := info_parts info3
  have TV : ∀ x ∈ tgtL xs, -1000000 ≤ x ∧ x ≤ 1000000 := fun x hx => by
    obtain ⟨y, hy, rfl⟩ := List.mem_map.1 hx
    have := A.tgt y hy
    omega
  have MF : Hid (∀ (g : Nat) W, Rd W (some ⟨g, 0, none⟩) (tgtL xs) → Calls Try.prog 78 #[.slice (some ⟨g, 0, none⟩) xs.length xs.length] W fun e w' => e = .returned (.int .i64 (M.meanS (sms xs))) ∧ Below W.heap.size W w') := fun g W hW => by
    have := mean_far (some ⟨g, 0, none⟩) (tgtL xs) xs.length W hW (by rw [tgtL_len]; exact l60) (by rw [tgtL_len]; exact hp) TV
    rw [tgtL_len, tgtL_sum] at this
    unfold M.meanS
    rw [sms_len]
    exact this
  obtain ⟨w1, hw1⟩ : ∃ W, W = w.alloc (.cells #[.int .i64 0, .int .i64 0, .int .i64 0, .int .i64 0, .bool false, .int .i64 0] 32) := ⟨_, rfl⟩
  have K1 : Hid (Below w.heap.size w w1) := by unfold Hid; rw [hw1]; exact (Below.refl _ w).alloc (Nat.le_refl _) _
  have B1 := hide (fun W (hW : Below w1.heap.size w1 W) => new_kept hw1 hW)
  have TA : Hid (∀ k (hk : k < xs.length) (hk' : k < (tgtL xs).length), (tgtL xs)[k]'hk' = xs[k].2.2.2) := fun k hk _ => tgtL_at xs hk
  have TL := hide (tgtL_len xs)
  have HW := hide hw1
  clear h A hw1 TV
  generalize M.meanS (sms xs) = mv at *
  generalize tgtL xs = F at *
  go_enter Try.func52, Try.ntmps52
  go_upto_region 1 with fail
  rw [← HW.out]
  go_wp2_with (at_make; refine wpList_make_full _ rfl (.tmp 7) (.tmp 7) 23 rfl w1.heap.size 3 i0 (.int .i64 0) 1 Try.underlying23 hi hz0 hz1 .i64 .i64 _ _ xs.length rfl rfl (by omega) (by omega) (by rw [hz2]; omega) (by unfold maxLen; omega) (Nat.le_refl _) ?_; intro w2 hown hgrow)
  rw [made] at hown
  have hB : Hid (Below w1.heap.size w1 w2) := (Below.refl _ w1).grown hgrow (Nat.le_refl _) (fun k hk => by cases hk)
  have ho : Hid (w2.ownsRow w1.heap.size 3 1 (.slice (some ⟨w1.heap.size, 0, none⟩) xs.length xs.length) xs.length ((M.fillI F 0).map (Value.int .i64))) := by
    unfold Hid; rw [M.fill_zero, TL.out]; exact hown
  clear hown hgrow hi hz0 hz1 hz2 HW
  go_loopw [11] (fun i wr => ∃ k : Nat, k ≤ xs.length ∧ i = .int .i64 k ∧ Hid (wr.ownsRow w1.heap.size 3 1 (.slice (some ⟨w1.heap.size, 0, none⟩) xs.length xs.length) xs.length ((M.fillI F k).map (Value.int .i64))) ∧ Hid (Below w1.heap.size w1 wr)) (fun i _ => xs.length - (intOf i).toNat)
  case atStart => exact ⟨0, Nat.zero_le _, rfl, ho, hB⟩
  case round =>
    obtain ⟨k, hk, rfl, HO, K⟩ := hrel
    clear ho hB
    by_cases hlt : k < xs.length
    · obtain ⟨bl, ol, rfl, hbl, hcl⟩ := (HL.out.below (below_on K1.out K.out)).2.2 (by intro e; rw [e] at hlt; simp at hlt)
      obtain ⟨c0, c1⟩ := hcl k hlt
      have kl : k < F.length := by rw [TL.out]; exact hlt
      have UA : Hid (∀ o, Below wr.heap.size wr (wr.alloc o)) := fun o => (Below.refl _ wr).alloc (Nat.le_refl _) o
      have OA : Hid (∀ o, (wr.alloc o).ownsRow w1.heap.size 3 1 (.slice (some ⟨w1.heap.size, 0, none⟩) xs.length xs.length) xs.length ((M.fillI F k).map (Value.int .i64))) := fun o => own_up HO.out (UA.out o)
      have hlen : k < ((M.fillI F k).map (Value.int .i64)).length := by rw [List.length_map, M.fill_len _ _ (by omega)]; exact kl
      have FZ : ∀ o, (wr.alloc o).frozen? ⟨w1.heap.size, k, none⟩ = false := fun o => (OA.out o).frozenAt k
      have CZ : ∀ o, (wr.alloc o).cell? ⟨w1.heap.size, k, none⟩ = some (((M.fillI F k).map (Value.int .i64))[k]'hlen) := fun o => by
        rw [(OA.out o).cellAt k (by omega), List.getElem?_eq_getElem hlen]
      have HR : Hid (∀ o, ((wr.alloc o).setCell ⟨w1.heap.size, k, none⟩ (.int .i64 xs[k].2.2.2)).ownsRow w1.heap.size 3 1 (.slice (some ⟨w1.heap.size, 0, none⟩) xs.length xs.length) xs.length ((M.fillI F (k + 1)).map (Value.int .i64)) ∧ Below w1.heap.size w1 ((wr.alloc o).setCell ⟨w1.heap.size, k, none⟩ (.int .i64 xs[k].2.2.2))) := fun o => by
        have := fill_step (w := w1) (x := xs[k].2.2.2) TL.out hlt (TA.out k hlt kl).symm (OA.out o) (below_on K.out (UA.out o))
        exact this
      have kz : (k : Int) < (xs.length : Int) := by omega
      unfold sxV at c0
      clear hcl HL AA B1 MF TA HO OA UA kl
      generalize xs[k].2.2.2 = t at *
      generalize xs[k].2.1.length = rl at *
      generalize xs[k].2.2.1 = rc at *
      generalize xs[k].1 = ra at *
      generalize ((M.fillI F k).map (Value.int .i64))[k]'hlen = z at *
      clear hlen
      go_wp2
      go_roundw
      case rel => exact ⟨k + 1, by omega, by go_num, (HR.out _).1, (HR.out _).2⟩
      case measure => simp [intOf]; omega
    · have ke : k = F.length := by rw [TL.out]; omega
      have ho := HO.out
      rw [ke, M.fill_all] at ho
      have RD : Hid (Rd wr (some ⟨w1.heap.size, 0, none⟩) F) := by
        rw [← TL.out] at ho
        obtain ⟨a2, c2, e2, hr, _⟩ := own_rd ho
        rw [Value.slice.injEq] at e2
        rw [e2.1]
        exact hr
      have MM := hide (MF.out w1.heap.size wr RD.out)
      clear HL AA MF TA ke ho RD HO
      go_upto_region 7 with fail
      go_wp2_with (go_at_call 78; refine MM.out.mono ?_; rintro e w3 ⟨rfl, hb3⟩; have K3 := hide (below_on K.out hb3); have y0 := (B1.out w3 K3.out).1 0 _ rfl; have y1 := (B1.out w3 K3.out).1 1 _ rfl; have y2 := (B1.out w3 K3.out).1 2 _ rfl; have y3 := (B1.out w3 K3.out).1 3 _ rfl; have y4 := (B1.out w3 K3.out).1 4 _ rfl; have y5 := (B1.out w3 K3.out).1 5 _ rfl; have f0 := (B1.out w3 K3.out).2 0; have f1 := (B1.out w3 K3.out).2 1; have f2 := (B1.out w3 K3.out).2 2; have f3 := (B1.out w3 K3.out).2 3; have f4 := (B1.out w3 K3.out).2 4; have f5 := (B1.out w3 K3.out).2 5; clear hb3)
      obtain ⟨e0, e1, e2, e3, e4, e5⟩ := set6 (x0 := .int .i64 (-1)) (x1 := .int .i64 0) (x2 := .int .i64 0) (x3 := .int .i64 0) (x4 := .bool false) (x5 := .int .i64 mv) y0 y1 y2 y3 y4 y5
      refine bodyPost_ret (v := .agg #[.int .i64 (-1), .int .i64 0, .int .i64 0, .int .i64 0, .bool false, .int .i64 mv]) (by simp [results, Try.results52, go_sem, e0, e1, e2, e3, e4, e5]) rfl ?_
      exact ⟨rfl, below6 (below_on K1.out K3.out) (by omega)⟩

end Go.Proofs.Ytpblpfleiilehaf
