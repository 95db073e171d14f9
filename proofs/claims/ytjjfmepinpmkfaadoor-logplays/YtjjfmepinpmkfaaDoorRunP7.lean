/-
  Several texts as one: LgMa, LgMb, InBox, LgMs, LgMk.
-/
import Derived.Test.YtjjfmepinpmkfaaDoorRunP6
import Derived.Test.YtjjfmepinpmkfaaDoorRunP1
namespace Go.Proofs.YtjjfmepinpmkfaaDoor.M
set_option linter.unusedVariables false
/-! ### a call as bytes -/
def sixL (c : Ca) : List Int := [c.what, c.ses, c.seq, c.num, c.share, (c.name.length : Int)]
def bodL (c : Ca) : List Nat := bysL (sixL c) ++ c.name ++ c.bys
def recL (c : Ca) : List Nat := numL ((bodL c).length : Int) ++ bodL c
def recs (l : List Ca) : List Nat := l.flatMap recL
theorem recs_app (a b : List Ca) : recs (a ++ b) = recs a ++ recs b := by unfold recs; rw [List.flatMap_append]
theorem recs_cons (c : Ca) (l : List Ca) : recs (c :: l) = recL c ++ recs l := rfl
theorem recs_one (c : Ca) : recs [c] = recL c := by rw [recs_cons]; show recL c ++ [] = _; rw [List.append_nil]
def rngF (c : Ca) : Bool := decide (1 ≤ c.what) && decide (c.what ≤ 4) && timeB c.ses && timeB c.seq && timeB c.num && timeB c.share
/-- a call that may be kept -/
structure CaOk (c : Ca) : Prop where
  rng : rngF c = true
  nl : c.name.length ≤ 100
  bl : c.bys.length ≤ 6000
  nb : ∀ x ∈ c.name, x < 256
  bb : ∀ x ∈ c.bys, x < 256
theorem time_in {n : Int} (h : timeB n = true) : 0 ≤ n ∧ n ≤ 1000000 := by
  unfold timeB at h
  rw [Bool.and_eq_true, decide_eq_true_iff, decide_eq_true_iff] at h
  exact h
theorem rng_in {c : Ca} (h : rngF c = true) : (1 ≤ c.what ∧ c.what ≤ 4) ∧ (0 ≤ c.ses ∧ c.ses ≤ 1000000) ∧ (0 ≤ c.seq ∧ c.seq ≤ 1000000) ∧ (0 ≤ c.num ∧ c.num ≤ 1000000) ∧ (0 ≤ c.share ∧ c.share ≤ 1000000) := by
  unfold rngF at h
  simp only [Bool.and_eq_true, decide_eq_true_iff] at h
  exact ⟨h.1.1.1.1, time_in h.1.1.1.2, time_in h.1.1.2, time_in h.1.2, time_in h.2⟩
theorem CaOk.six {c : Ca} (h : CaOk c) : ∀ x ∈ sixL c, 0 ≤ x ∧ x ≤ 1000000 := by
  have r := rng_in h.rng
  have n := h.nl
  intro x hx
  unfold sixL at hx
  simp only [List.mem_cons, List.not_mem_nil, or_false] at hx
  rcases hx with e | e | e | e | e | e <;> omega
theorem CaOk.i64 {c : Ca} (h : CaOk c) : ∀ x ∈ sixL c, I64 x := fun x hx => by
  have := h.six x hx
  unfold I64
  omega
theorem CaOk.body_le {c : Ca} (h : CaOk c) : (bodL c).length ≤ 6160 := by
  have a := bys_len (sixL c) h.i64
  have n := h.nl
  have b := h.bl
  have e : (sixL c).length = 6 := rfl
  unfold bodL
  rw [List.length_append, List.length_append]
  omega
theorem CaOk.num_in {c : Ca} (h : CaOk c) : -9223372036854775808 ≤ ((bodL c).length : Int) ∧ ((bodL c).length : Int) ≤ 9223372036854775807 := by
  have := h.body_le
  omega
theorem CaOk.rec_le {c : Ca} (h : CaOk c) : 1 ≤ (recL c).length ∧ (recL c).length ≤ 6170 := by
  have a := num_len h.num_in.1 h.num_in.2
  have b := h.body_le
  unfold recL
  rw [List.length_append]
  omega
theorem CaOk.body_byte {c : Ca} (h : CaOk c) : ∀ x ∈ bodL c, x < 256 := fun x hx => by
  unfold bodL at hx
  rcases List.mem_append.1 hx with q | q
  · rcases List.mem_append.1 q with q | q
    · exact bys_byte _ x q
    · exact h.nb x q
  · exact h.bb x q
theorem CaOk.rec_byte {c : Ca} (h : CaOk c) : ∀ x ∈ recL c, x < 256 := fun x hx => by
  unfold recL at hx
  rcases List.mem_append.1 hx with q | q
  · exact sev_byte _ x q
  · exact h.body_byte x q
theorem recs_byte : ∀ l : List Ca, (∀ c ∈ l, CaOk c) → ∀ x ∈ recs l, x < 256
  | [], _, x, hx => by cases hx
  | c :: l, h, x, hx => by
    rw [recs_cons] at hx
    rcases List.mem_append.1 hx with q | q
    · exact (h c (List.mem_cons_self ..)).rec_byte x q
    · exact recs_byte l (fun d hd => h d (List.mem_cons_of_mem _ hd)) x q

/-! ### what bytes begin with -/
/-- a number is read, and there are not so many bytes behind it -/
def Short (b : List Nat) : Prop := (getL b).2.2 ≠ 0 ∨ (b.length : Int) - ((getL b).2.1 : Int) < (getL b).1
theorem get_rec {c : Ca} (h : CaOk c) (r : List Nat) : getL (recL c ++ r) = (((bodL c).length : Int), (numL ((bodL c).length : Int)).length, 0) := by
  unfold recL
  rw [List.append_assoc]
  exact get_num h.num_in.1 h.num_in.2 _
theorem rec_drop {c : Ca} (r : List Nat) : (recL c ++ r).drop (numL ((bodL c).length : Int)).length = bodL c ++ r := by
  unfold recL
  rw [List.append_assoc, List.drop_left]
theorem short_cut {c : Ca} (h : CaOk c) {k : Nat} (hk : k < (recL c).length) : Short ((recL c).take k) := by
  have nl := num_len h.num_in.1 h.num_in.2
  have rl : (recL c).length = (numL ((bodL c).length : Int)).length + (bodL c).length := by unfold recL; rw [List.length_append]
  unfold Short
  by_cases q : k < (numL ((bodL c).length : Int)).length
  · left
    have e : (recL c).take k = (numL ((bodL c).length : Int)).take k := by
      unfold recL
      rw [List.take_append_of_le_length (by omega)]
    rw [e, get_cut h.num_in.1 h.num_in.2 q]
    decide
  · right
    have e : (recL c).take k = numL ((bodL c).length : Int) ++ (bodL c).take (k - (numL ((bodL c).length : Int)).length) := by
      unfold recL
      rw [List.take_append, List.take_of_length_le (by omega)]
    have el : ((recL c).take k).length = k := by rw [List.length_take]; omega
    rw [el]
    have g : getL ((recL c).take k) = (((bodL c).length : Int), (numL ((bodL c).length : Int)).length, 0) := by rw [e, get_num h.num_in.1 h.num_in.2]
    rw [g]
    show (k : Int) - ((numL ((bodL c).length : Int)).length : Int) < ((bodL c).length : Int)
    omega
theorem short_nil : Short [] := .inl (by decide)
/-- what is left of a call -/
def TailOk (b : List Nat) : Prop := ∃ c k, CaOk c ∧ k < (recL c).length ∧ b = (recL c).take k
theorem TailOk.short {b : List Nat} (h : TailOk b) : Short b := by
  obtain ⟨c, k, a, hk, rfl⟩ := h
  exact short_cut a hk
theorem TailOk.byte {b : List Nat} (h : TailOk b) : ∀ x ∈ b, x < 256 := by
  obtain ⟨c, k, a, hk, rfl⟩ := h
  intro x hx
  exact a.rec_byte x (List.mem_of_mem_take hx)
theorem TailOk.len {b : List Nat} (h : TailOk b) : b.length ≤ 6170 := by
  obtain ⟨c, k, a, hk, rfl⟩ := h
  have := a.rec_le
  rw [List.length_take]
  omega
theorem TailOk.cut {b : List Nat} (h : TailOk b) (n : Nat) : TailOk (b.take n) := by
  obtain ⟨c, k, a, hk, rfl⟩ := h
  exact ⟨c, min n k, a, by omega, by rw [List.take_take]⟩
def caR : Ca := ⟨1, 0, 0, [], 0, 0, []⟩
theorem caR_ok : CaOk caR := ⟨by decide, by decide, by decide, (fun x hx => by cases hx), (fun x hx => by cases hx)⟩
theorem tail_nil : TailOk [] := ⟨caR, 0, caR_ok, caR_ok.rec_le.1, rfl⟩
/-- how many calls so many bytes have whole -/
def fitN : List Ca → Nat → Nat
  | [], _ => 0
  | c :: l, n => if (recL c).length ≤ n then fitN l (n - (recL c).length) + 1 else 0
theorem fitN_le : ∀ (l : List Ca) (n : Nat), fitN l n ≤ l.length
  | [], _ => Nat.le_refl _
  | c :: l, n => by
    have := fitN_le l (n - (recL c).length)
    unfold fitN
    split
    · rw [List.length_cons]; omega
    · exact Nat.zero_le _
theorem fitN_all : ∀ (l : List Ca) (n : Nat), (recs l).length ≤ n → fitN l n = l.length
  | [], _, _ => rfl
  | c :: l, n, h => by
    rw [recs_cons, List.length_append] at h
    unfold fitN
    rw [if_pos (by omega), fitN_all l _ (by omega), List.length_cons]
/-- cut off anywhere, whole calls stand there, and what is left of one -/
theorem cut_at : ∀ (l : List Ca) (t : List Nat) (n : Nat), (∀ c ∈ l, CaOk c) → TailOk t → (recs (l.take (fitN l n))).length ≤ n ∧ ∃ t', TailOk t' ∧ (recs l ++ t).take n = recs (l.take (fitN l n)) ++ t' ∧ ((recs l).length ≤ n → t' = t.take (n - (recs l).length))
  | [], t, n, _, ht => by
    refine ⟨Nat.zero_le _, t.take n, ht.cut n, ?_, fun _ => ?_⟩
    · show t.take n = [] ++ _
      rw [List.nil_append]
    · show _ = t.take (n - 0)
      rw [Nat.sub_zero]
  | c :: l, t, n, h, ht => by
    by_cases q : (recL c).length ≤ n
    · obtain ⟨a, t', b1, b2, b3⟩ := cut_at l t (n - (recL c).length) (fun d hd => h d (List.mem_cons_of_mem _ hd)) ht
      have e : fitN (c :: l) n = fitN l (n - (recL c).length) + 1 := by show (if _ then _ else _) = _; rw [if_pos q]
      rw [e, List.take_succ_cons, recs_cons, recs_cons]
      refine ⟨by rw [List.length_append]; omega, t', b1, ?_, fun z => ?_⟩
      · rw [List.append_assoc, List.take_append, List.take_of_length_le q, b2, List.append_assoc]
      · rw [List.length_append] at z ⊢
        rw [b3 (by omega)]
        congr 1
        omega
    · have e : fitN (c :: l) n = 0 := by show (if _ then _ else _) = _; rw [if_neg q]
      rw [e]
      refine ⟨Nat.zero_le _, (recL c).take n, ⟨c, n, h c (List.mem_cons_self ..), by omega, rfl⟩, ?_, fun z => ?_⟩
      · show _ = [] ++ _
        rw [recs_cons, List.append_assoc, List.take_append_of_le_length (by omega), List.nil_append]
      · rw [recs_cons, List.length_append] at z
        omega
theorem recs_drop {l : List Ca} {k : Nat} (hk : k < l.length) : recs (l.drop k) = recL l[k] ++ recs (l.drop (k + 1)) := by
  rw [List.drop_eq_getElem_cons hk, recs_cons]
theorem recs_split (l : List Ca) (k : Nat) : recs l = recs (l.take k) ++ recs (l.drop k) := by
  rw [← recs_app, List.take_append_drop]
structure Lg where
  calls : List Ca
  tail : List Nat
  safe : Nat
  ahead : Int
  stop : Bool
def Lg.bytes (L : Lg) : List Nat := recs L.calls ++ L.tail
def Lg.whole (L : Lg) : Nat := (recs L.calls).length
structure LgOk (L : Lg) : Prop where
  ok : ∀ c ∈ L.calls, CaOk c
  tl : TailOk L.tail
  wh : L.whole ≤ 100000
  sf : L.safe ≤ L.bytes.length
  ah : I64 L.ahead
theorem LgOk.len {L : Lg} (h : LgOk L) : L.whole ≤ L.bytes.length ∧ L.bytes.length ≤ 106170 := by
  have a := h.tl.len
  have b := h.wh
  unfold Lg.bytes
  unfold Lg.whole at b ⊢
  rw [List.length_append]
  omega
theorem LgOk.byte {L : Lg} (h : LgOk L) : ∀ x ∈ L.bytes, x < 256 := fun x hx => by
  unfold Lg.bytes at hx
  rcases List.mem_append.1 hx with q | q
  · exact recs_byte _ h.ok x q
  · exact h.tl.byte x q
theorem dec_in {a : Int} (h : I64 a) : I64 (if 0 < a then a - 1 else a) := by
  unfold I64 at *
  by_cases q : 0 < a
  · rw [if_pos q]; omega
  · rw [if_neg q]; exact h
def lg0 : Lg := ⟨[], [], 0, -1, false⟩
theorem lg0_ok : LgOk lg0 := ⟨(fun c hc => by cases hc), tail_nil, by decide, by decide, by unfold I64 lg0; decide⟩
/-! ### a step -/
def stpF (L : Lg) : Bool := L.stop || decide (L.ahead = 0)
def stpL (L : Lg) : Lg := ⟨L.calls, L.tail, L.safe, if stpF L = true then L.ahead else if 0 < L.ahead then L.ahead - 1 else L.ahead, stpF L⟩
theorem stp_ok {L : Lg} (h : LgOk L) : LgOk (stpL L) := ⟨h.ok, h.tl, h.wh, h.sf, by
  unfold stpL
  by_cases q : stpF L = true
  · simp only [if_pos q]; exact h.ah
  · simp only [if_neg q]; exact dec_in h.ah⟩
/-! ### cut off -/
def cutG (L : Lg) (n : Nat) : Lg := ⟨L.calls.take (fitN L.calls n), (L.bytes.take n).drop (recs (L.calls.take (fitN L.calls n))).length, min L.safe n, L.ahead, L.stop⟩
theorem cutG_tail {L : Lg} (h : LgOk L) (n : Nat) : TailOk (cutG L n).tail ∧ (cutG L n).bytes = L.bytes.take n := by
  obtain ⟨a, t', b1, b2, b3⟩ := cut_at L.calls L.tail n h.ok h.tl
  have e : (cutG L n).tail = t' := by
    show ((recs L.calls ++ L.tail).take n).drop _ = _
    rw [b2, List.drop_left]
  rw [e]
  refine ⟨b1, ?_⟩
  show recs (L.calls.take (fitN L.calls n)) ++ (cutG L n).tail = (recs L.calls ++ L.tail).take n
  rw [e, b2]
theorem cutG_ok {L : Lg} (h : LgOk L) (n : Nat) (hn : n ≤ L.bytes.length) : LgOk (cutG L n) := by
  obtain ⟨t1, t2⟩ := cutG_tail h n
  refine ⟨fun c hc => h.ok c (List.mem_of_mem_take hc), t1, ?_, ?_, h.ah⟩
  · have w := h.wh
    have e := recs_split L.calls (fitN L.calls n)
    have e2 := congrArg List.length e
    rw [List.length_append] at e2
    show (recs (L.calls.take (fitN L.calls n))).length ≤ _
    unfold Lg.whole at w
    omega
  · rw [t2, List.length_take]
    show min L.safe n ≤ _
    have := h.sf
    omega
theorem cutG_whole {L : Lg} (h : LgOk L) : cutG L L.whole = ⟨L.calls, [], min L.safe L.whole, L.ahead, L.stop⟩ := by
  have f : fitN L.calls L.whole = L.calls.length := fitN_all _ _ (Nat.le_refl _)
  unfold cutG
  rw [f, List.take_length]
  have e : (L.bytes.take L.whole).drop (recs L.calls).length = [] := List.drop_eq_nil_of_le (by
    rw [List.length_take]
    show min (recs L.calls).length _ ≤ _
    omega)
  rw [e]
theorem cutG_more {L : Lg} (h : LgOk L) {n : Nat} (hn : L.whole ≤ n) : (cutG L n).whole = L.whole := by
  show (recs (L.calls.take (fitN L.calls n))).length = _
  rw [fitN_all _ _ hn, List.take_length]
  rfl
/-! ### a call is appended -/
def apF (L : Lg) (c : Ca) : Int := if rngF c = false then 1 else if 100 < c.name.length ∨ 6000 < c.bys.length ∨ 100000 < L.whole + (recL c).length then 4 else if stpF L = true then 9 else 0
def apL (L : Lg) (c : Ca) : Lg := if apF L c = 1 ∨ apF L c = 4 ∨ L.stop = true then L else if L.ahead = 0 then ⟨L.calls, (recL c).take ((recL c).length / 2), min L.safe L.whole, L.ahead, true⟩ else ⟨L.calls ++ [c], [], min L.safe L.whole, if 0 < L.ahead then L.ahead - 1 else L.ahead, L.stop⟩
def crN (L : Lg) (keep : Int) : Nat := L.safe + min keep.toNat (L.bytes.length - L.safe)
def crL (L : Lg) (keep : Int) : Lg := ⟨(cutG L (crN L keep)).calls, (cutG L (crN L keep)).tail, (cutG L (crN L keep)).bytes.length, -1, false⟩
def syF (L : Lg) : Int := if stpF L = true then 9 else 0
def syL (L : Lg) : Lg := if stpF L = true then stpL L else ⟨L.calls, L.tail, L.bytes.length, (stpL L).ahead, false⟩
theorem crN_le {L : Lg} (h : LgOk L) (keep : Int) : L.safe ≤ crN L keep ∧ crN L keep ≤ L.bytes.length := by
  have := h.sf
  unfold crN
  omega
theorem cr_ok {L : Lg} (h : LgOk L) (keep : Int) : LgOk (crL L keep) := by
  have a := cutG_ok h (crN L keep) (crN_le h keep).2
  exact ⟨a.ok, a.tl, a.wh, Nat.le_refl _, ⟨(by decide : (-9223372036854775808 : Int) ≤ -1), (by decide : (-1 : Int) ≤ 9223372036854775807)⟩⟩
theorem cr_bytes {L : Lg} (h : LgOk L) (keep : Int) : (crL L keep).bytes = L.bytes.take (crN L keep) := (cutG_tail h _).2
theorem cr_safe {L : Lg} (h : LgOk L) (keep : Int) : (crL L keep).safe = crN L keep := by
  show (cutG L (crN L keep)).bytes.length = _
  rw [(cutG_tail h _).2, List.length_take]
  have := crN_le h keep
  omega
theorem sy_ok {L : Lg} (h : LgOk L) : LgOk (syL L) := by
  unfold syL
  split
  · exact stp_ok h
  · exact ⟨h.ok, h.tl, h.wh, Nat.le_refl _, (stp_ok h).ah⟩
theorem ca_ok {L : Lg} {c : Ca} (h1 : apF L c ≠ 1) (h4 : apF L c ≠ 4) (nb : ∀ x ∈ c.name, x < 256) (bb : ∀ x ∈ c.bys, x < 256) : CaOk c ∧ L.whole + (recL c).length ≤ 100000 ∧ apF L c = if stpF L = true then 9 else 0 := by
  unfold apF at *
  by_cases q : rngF c = false
  · rw [if_pos q] at h1; exact absurd rfl h1
  · rw [if_neg q] at h1 h4 ⊢
    by_cases z : 100 < c.name.length ∨ 6000 < c.bys.length ∨ 100000 < L.whole + (recL c).length
    · rw [if_pos z] at h4; exact absurd rfl h4
    · rw [if_neg z]
      exact ⟨⟨by simpa using q, by omega, by omega, nb, bb⟩, by omega, rfl⟩
theorem ap_ok {L : Lg} (h : LgOk L) {c : Ca} (nb : ∀ x ∈ c.name, x < 256) (bb : ∀ x ∈ c.bys, x < 256) : LgOk (apL L c) := by
  unfold apL
  by_cases q : apF L c = 1 ∨ apF L c = 4 ∨ L.stop = true
  · rw [if_pos q]; exact h
  · rw [if_neg q]
    obtain ⟨k1, k2, k3⟩ := ca_ok (L := L) (c := c) (fun e => q (.inl e)) (fun e => q (.inr (.inl e))) nb bb
    have rl := k1.rec_le
    have ah := h.ah
    by_cases z : L.ahead = 0
    · rw [if_pos z]
      refine ⟨h.ok, ⟨c, _, k1, by omega, rfl⟩, h.wh, ?_, h.ah⟩
      show min L.safe L.whole ≤ (recs L.calls ++ _).length
      rw [List.length_append]
      unfold Lg.whole
      omega
    · rw [if_neg z]
      have we : (recs (L.calls ++ [c])).length = L.whole + (recL c).length := by rw [recs_app, recs_one, List.length_append]; rfl
      refine ⟨fun d hd => ?_, tail_nil, ?_, ?_, ?_⟩
      · rcases List.mem_append.1 hd with y | y
        · exact h.ok d y
        · rw [List.mem_singleton] at y; subst y; exact k1
      · show (recs (L.calls ++ [c])).length ≤ _
        rw [we]; exact k2
      · show min L.safe L.whole ≤ (recs (L.calls ++ [c]) ++ []).length
        rw [List.append_nil, we]
        omega
      · exact dec_in h.ah
end Go.Proofs.YtjjfmepinpmkfaaDoor.M

namespace Go.Proofs.YtjjfmepinpmkfaaDoor
open Go.ChangeShapes Go.WideShapes Go.ChangeAt Go.RowKit Go.Lib
set_option linter.unusedVariables false
theorem M.gt_le : ∀ (b : List Nat) (i x : Nat), (M.gtK b i x).2.1 ≤ i + b.length
  | [], i, x => by show 0 ≤ i + 0; omega
  | c :: r, i, x => by
    have ih := M.gt_le r (i + 1) (x + c % 128 * 128 ^ i)
    show (if (i = 9 ∧ 1 < c) ∨ (0 < i ∧ c = 0) then ((0 : Int), (0 : Nat), (2 : Int)) else if c < 128 then (M.unz (x + c % 128 * 128 ^ i), i + 1, 0) else M.gtK r (i + 1) (x + c % 128 * 128 ^ i)).2.1 ≤ i + (r.length + 1)
    split
    · exact Nat.zero_le _
    · split
      · show i + 1 ≤ _; omega
      · omega
theorem M.get_le (b : List Nat) : (M.getL b).2.1 ≤ b.length := by
  have := M.gt_le b 0 0
  rw [Nat.zero_add] at this
  exact this
theorem M.rNum_fin {b : List Nat} {s : M.In} (h : s.fin ≤ b.length) : (M.rNum b s).2.fin ≤ b.length := by
  by_cases q : s.bad = 0
  · rw [M.rNum_go q]
    have := M.get_le (b.drop s.fin)
    rw [List.length_drop] at this
    show s.fin + _ ≤ _
    omega
  · rw [M.rNum_bad q]; exact h
theorem M.rMany_fin {b : List Nat} {s : M.In} {most : Int} (h : s.fin ≤ b.length) : (M.rMany b most s).2.fin ≤ b.length := by
  have := M.rNum_fin h
  unfold M.rMany
  split
  · exact this
  · split
    · exact this
    · exact this
/-- a cell is written -/
theorem cell_set_same {W : World} {g o : Nat} {u v : Value} (h : W.cell? ⟨g, o, none⟩ = some u) : (W.setCell ⟨g, o, none⟩ v).cell? ⟨g, o, none⟩ = some v := World.cell?_setCell_same _ _ _ h
theorem cell_set_other {W : World} {g o j : Nat} {u v : Value} (h : W.cell? ⟨g, j, none⟩ = some u) (hj : o ≠ j) : (W.setCell ⟨g, o, none⟩ v).cell? ⟨g, j, none⟩ = some u := (World.cell?_setCell_other _ _ _ _ (by intro e; cases e; exact hj rfl)).trans h
theorem frozen_set {W : World} {g o j : Nat} {v : Value} (h : W.frozen? ⟨g, j, none⟩ = false) : (W.setCell ⟨g, o, none⟩ v).frozen? ⟨g, j, none⟩ = false := by rw [World.frozen?_setCell]; exact h
theorem rdB_keep {W W' : World} {a : Option Addr} {xs : List Nat} (h : RdB W a xs) (hk : xs ≠ [] → ∀ p, a = some p → W'.heap[p.block]? = W.heap[p.block]?) (hz : W.heap.size ≤ W'.heap.size) : RdB W' a xs :=
  ⟨h.1, h.2.1, fun hn => by
    obtain ⟨b, off, e, hl, hc⟩ := h.2.2 hn
    have hb : W'.heap[b]? = W.heap[b]? := hk hn _ e
    exact ⟨b, off, e, Nat.lt_of_lt_of_le hl hz, fun i hi => (World.cell?_of_block (a := ⟨b, _, none⟩) hb).trans (hc i hi)⟩⟩
end Go.Proofs.YtjjfmepinpmkfaaDoor

namespace Go.Proofs.YtjjfmepinpmkfaaDoor.M
set_option linter.unusedVariables false
def JS (after : Int) (L : Lg) (n : Nat) : Prop := L.stop = false → (after < 0 ∧ L.ahead = after) ∨ (0 ≤ after ∧ (n : Int) ≤ after ∧ L.ahead = after - n)
theorem JS.lost {after : Int} {L : Lg} {n : Nat} (h : JS after L n) : stpF L = (L.stop || (decide (0 ≤ after) && decide ((n : Int) = after))) := by
  unfold stpF
  cases hs : L.stop with
  | true => rfl
  | false =>
    rw [Bool.false_or, Bool.false_or]
    rcases h hs with ⟨a, b⟩ | ⟨a, b, c⟩
    · rw [decide_eq_false (by omega : ¬ L.ahead = 0), decide_eq_false (by omega : ¬ 0 ≤ after), Bool.false_and]
    · rw [decide_eq_true a, Bool.true_and]
      exact decide_eq_decide.2 (by omega)
theorem JS.ways {after : Int} {L : Lg} {n : Nat} (h : JS after L n) : (L.stop = true ∧ stpF L = true) ∨ (L.stop = false ∧ decide (0 ≤ after) = false ∧ stpF L = false) ∨ (L.stop = false ∧ decide (0 ≤ after) = true ∧ ((n : Int) == after) = true ∧ stpF L = true) ∨ (L.stop = false ∧ decide (0 ≤ after) = true ∧ ((n : Int) == after) = false ∧ stpF L = false) := by
  have e := h.lost
  cases hs : L.stop with
  | true => exact .inl ⟨rfl, by rw [e, hs]; rfl⟩
  | false =>
    rw [hs, Bool.false_or] at e
    by_cases q : 0 ≤ after
    · rw [decide_eq_true q, Bool.true_and] at e
      by_cases z : (n : Int) = after
      · exact .inr (.inr (.inl ⟨rfl, decide_eq_true q, beq_iff_eq.2 z, by rw [e]; exact decide_eq_true z⟩))
      · exact .inr (.inr (.inr ⟨rfl, decide_eq_true q, beq_eq_false_iff_ne.2 z, by rw [e]; exact decide_eq_false z⟩))
    · exact .inr (.inl ⟨rfl, decide_eq_false q, by rw [e, decide_eq_false q]; rfl⟩)
theorem JS.step {after : Int} {L L' : Lg} {n : Nat} (h : JS after L n) (h1 : L'.stop = stpF L) (h2 : stpF L = false → L'.ahead = (stpL L).ahead) : JS after L' (n + 1) := fun hs => by
  have e : stpF L = false := h1.symm.trans hs
  have e2 := h2 e
  unfold stpL at e2
  simp only [e, Bool.false_eq_true, if_false] at e2
  have st : L.stop = false ∧ ¬ L.ahead = 0 := by
    unfold stpF at e
    rw [Bool.or_eq_false_iff, decide_eq_false_iff_not] at e
    exact e
  rcases h st.1 with ⟨a, b⟩ | ⟨a, b, c⟩
  · left
    rw [if_neg (by omega)] at e2
    exact ⟨a, by omega⟩
  · right
    rw [if_pos (by omega)] at e2
    exact ⟨a, by omega, by omega⟩
theorem ap_step {L : Lg} {c : Ca} (h1 : apF L c ≠ 1) (h4 : apF L c ≠ 4) : (apF L c = if stpF L = true then 9 else 0) ∧ (apL L c).stop = stpF L ∧ (stpF L = false → (apL L c).ahead = (stpL L).ahead) := by
  have e : apF L c = if stpF L = true then 9 else 0 := by
    unfold apF at *
    by_cases q : rngF c = false
    · rw [if_pos q] at h1; exact absurd rfl h1
    · rw [if_neg q] at h4 ⊢
      by_cases z : 100 < c.name.length ∨ 6000 < c.bys.length ∨ 100000 < L.whole + (recL c).length
      · rw [if_pos z] at h4; exact absurd rfl h4
      · rw [if_neg z]
  refine ⟨e, ?_⟩
  unfold apL
  by_cases hs : L.stop = true
  · rw [if_pos (.inr (.inr hs))]
    have : stpF L = true := by unfold stpF; rw [hs]; rfl
    exact ⟨hs.trans this.symm, fun z => by rw [this] at z; cases z⟩
  · have hs' : L.stop = false := by simpa using hs
    rw [if_neg (fun z => z.elim h1 (fun y => y.elim h4 hs))]
    by_cases a0 : L.ahead = 0
    · rw [if_pos a0]
      have : stpF L = true := by unfold stpF; rw [decide_eq_true a0, Bool.or_true]
      exact ⟨this.symm, fun z => by rw [this] at z; cases z⟩
    · rw [if_neg a0]
      have : stpF L = false := by unfold stpF; rw [hs', decide_eq_false a0]; rfl
      refine ⟨hs'.trans this.symm, fun _ => ?_⟩
      unfold stpL
      simp only [this, Bool.false_eq_true, if_false]
theorem sy_step (L : Lg) : (syL L).stop = stpF L ∧ (stpF L = false → (syL L).ahead = (stpL L).ahead) := by
  unfold syL
  by_cases q : stpF L = true
  · rw [if_pos q]
    exact ⟨rfl, fun _ => rfl⟩
  · rw [if_neg q]
    exact ⟨by simpa using q, fun _ => rfl⟩
theorem ap_same {L : Lg} {c : Ca} (h : apF L c = 1 ∨ apF L c = 4) : apL L c = L := by
  unfold apL
  rw [if_pos (h.elim .inl (fun z => .inr (.inl z)))]
/-- which numbers of faults there are -/
theorem ap_faults (L : Lg) (c : Ca) : apF L c = 1 ∨ apF L c = 4 ∨ (apF L c ≠ 1 ∧ apF L c ≠ 4) := by omega
/-- so many calls are safe -/
def KS (L : Lg) (s : Nat) : Prop := s ≤ L.calls.length ∧ (recs (L.calls.take s)).length ≤ L.safe
theorem recs_take_le (l : List Ca) (k : Nat) : (recs (l.take k)).length ≤ (recs l).length := by
  have := congrArg List.length (recs_split l k)
  rw [List.length_append] at this
  omega
theorem ap_calls {L : Lg} {c : Ca} (nz : apF L c ≠ 0) : (apL L c).calls = L.calls := by
  unfold apL
  by_cases q : apF L c = 1 ∨ apF L c = 4 ∨ L.stop = true
  · rw [if_pos q]
  · rw [if_neg q]
    by_cases z : L.ahead = 0
    · rw [if_pos z]
    · exfalso
      refine nz ?_
      have h := (ap_step (L := L) (c := c) (fun e => q (.inl e)) (fun e => q (.inr (.inl e)))).1
      rw [h, if_neg]
      unfold stpF
      rw [decide_eq_false z]
      cases hs : L.stop with
      | true => exact absurd (.inr (.inr hs)) q
      | false => decide
theorem ap_push {L : Lg} {c : Ca} (z : apF L c = 0) : apL L c = ⟨L.calls ++ [c], [], min L.safe L.whole, if 0 < L.ahead then L.ahead - 1 else L.ahead, L.stop⟩ := by
  have h := (ap_step (L := L) (c := c) (by omega) (by omega)).1
  have f : ¬ stpF L = true := fun e => by rw [if_pos e] at h; omega
  unfold stpF at f
  rw [Bool.or_eq_true, decide_eq_true_iff] at f
  unfold apL
  rw [if_neg (by rw [z]; intro y; rcases y with y | y | y; cases y; cases y; exact f (.inl y)), if_neg (fun e => f (.inr e))]
theorem KS.ap {L : Lg} {s : Nat} (h : KS L s) (c : Ca) : KS (apL L c) s := by
  obtain ⟨h1, h2⟩ := h
  have w : (recs (L.calls.take s)).length ≤ L.whole := recs_take_le _ _
  by_cases z : apF L c = 0
  · rw [ap_push z]
    refine ⟨by show s ≤ (L.calls ++ [c]).length; rw [List.length_append]; omega, ?_⟩
    show (recs ((L.calls ++ [c]).take s)).length ≤ min L.safe L.whole
    rw [List.take_append_of_le_length h1]
    omega
  · refine ⟨by rw [ap_calls z]; exact h1, ?_⟩
    rw [ap_calls z]
    unfold apL
    by_cases q : apF L c = 1 ∨ apF L c = 4 ∨ L.stop = true
    · rw [if_pos q]; exact h2
    · rw [if_neg q]
      by_cases a0 : L.ahead = 0
      · rw [if_pos a0]; show _ ≤ min L.safe L.whole; omega
      · rw [if_neg a0]; show _ ≤ min L.safe L.whole; omega
theorem sy_calls (L : Lg) : (syL L).calls = L.calls := by unfold syL; split <;> rfl
theorem KS.sy {L : Lg} {s : Nat} (h : KS L s) (ok : LgOk L) : KS (syL L) s := by
  refine ⟨by rw [sy_calls]; exact h.1, ?_⟩
  rw [sy_calls]
  unfold syL
  split
  · exact h.2
  · show _ ≤ L.bytes.length
    have a := ok.sf
    have b := h.2
    omega
theorem KS.sy0 {L : Lg} (z : syF L = 0) (ok : LgOk L) : KS (syL L) L.calls.length := by
  refine ⟨by rw [sy_calls]; exact Nat.le_refl _, ?_⟩
  rw [sy_calls, List.take_length]
  have f : ¬ stpF L = true := fun e => by unfold syF at z; rw [if_pos e] at z; cases z
  unfold syL
  rw [if_neg f]
  exact ok.len.1
theorem fitN_ge : ∀ (l : List Ca) (s n : Nat), s ≤ l.length → (recs (l.take s)).length ≤ n → s ≤ fitN l n
  | _, 0, _, _, _ => Nat.zero_le _
  | [], s + 1, _, h, _ => by simp at h
  | c :: l, s + 1, n, h, hn => by
    rw [List.take_succ_cons, recs_cons, List.length_append] at hn
    unfold fitN
    rw [if_pos (by omega)]
    have := fitN_ge l s (n - (recL c).length) (by simpa using h) (by omega)
    omega
theorem cr_calls (L : Lg) (keep : Int) : (crL L keep).calls = L.calls.take (fitN L.calls (crN L keep)) := rfl
theorem KS.cr {L : Lg} {s : Nat} (h : KS L s) (ok : LgOk L) (keep : Int) : s ≤ (crL L keep).calls.length ∧ (crL L keep).calls.length ≤ L.calls.length := by
  have a := fitN_ge L.calls s (crN L keep) h.1 (Nat.le_trans h.2 (crN_le ok keep).1)
  rw [cr_calls, List.length_take]
  have := h.1
  omega
/-- Synced and crashed, all calls are there -/
theorem sync_crash {L : Lg} (ok : LgOk L) (f : stpF L = false) : (crL (syL L) 0).calls = L.calls := by
  have es : syL L = ⟨L.calls, L.tail, L.bytes.length, (stpL L).ahead, false⟩ := by unfold syL; rw [if_neg (by rw [f]; decide)]
  rw [cr_calls, sy_calls]
  have e : fitN L.calls (crN (syL L) 0) = L.calls.length := by
    refine fitN_all _ _ ?_
    rw [es]
    unfold crN
    show (recs L.calls).length ≤ L.bytes.length + _
    have := ok.len.1
    unfold Lg.whole at this
    omega
  rw [e, List.take_length]
/-- behind a crash a call is kept, or there is no room -/
theorem again {L : Lg} {c : Ca} (f : stpF L = false) (hc : CaOk c) : apF L c = 4 ∨ apF L c = 0 := by
  unfold apF
  rw [if_neg (by rw [hc.rng]; decide)]
  split
  · exact .inl rfl
  · rw [f]; exact .inr rfl
end Go.Proofs.YtjjfmepinpmkfaaDoor.M
