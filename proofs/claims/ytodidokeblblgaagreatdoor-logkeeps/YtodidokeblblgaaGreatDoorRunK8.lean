/-
  Several texts as one: LgMa, LgMb, CaRd, InBox, MathHb, MathHc.
-/
import Derived.Test.YtodidokeblblgaaGreatDoorRunK7
import Derived.Test.YtodidokeblblgaaGreatDoorRunK1
namespace Go.Proofs.YtodidokeblblgaaGreatDoor.M
set_option linter.unusedVariables false
/-! ### a call as bytes -/
def sixL (c : Ca) : List Int := [c.what, c.ses, c.seq, c.num, c.share, (c.name.length : Int)]
def bodL (c : Ca) : List Nat := bysL (sixL c) ++ c.name ++ c.bys
def recL (c : Ca) : List Nat := numL ((bodL c).length : Int) ++ bodL c
def recs (l : List Ca) : List Nat := l.flatMap recL
theorem recs_app (a b : List Ca) : recs (a ++ b) = recs a ++ recs b := by unfold recs; rw [List.flatMap_append]
theorem recs_cons (c : Ca) (l : List Ca) : recs (c :: l) = recL c ++ recs l := rfl
theorem recs_one (c : Ca) : recs [c] = recL c := by rw [recs_cons]; show recL c ++ [] = _; rw [List.append_nil]
def rngF (c : Ca) : Bool := decide (1 ≤ c.what) && decide (c.what ≤ 4) && timeB c.ses && timeB c.seq && timeB c.num && timeB c.share
/-- a call that may be kept -/
structure CaOk (c : Ca) : Prop where
  rng : rngF c = true
  nl : c.name.length ≤ 100
  bl : c.bys.length ≤ 6000
  nb : ∀ x ∈ c.name, x < 256
  bb : ∀ x ∈ c.bys, x < 256
theorem time_in {n : Int} (h : timeB n = true) : 0 ≤ n ∧ n ≤ 1000000 := by
  unfold timeB at h
  rw [Bool.and_eq_true, decide_eq_true_iff, decide_eq_true_iff] at h
  exact h
theorem rng_in {c : Ca} (h : rngF c = true) : (1 ≤ c.what ∧ c.what ≤ 4) ∧ (0 ≤ c.ses ∧ c.ses ≤ 1000000) ∧ (0 ≤ c.seq ∧ c.seq ≤ 1000000) ∧ (0 ≤ c.num ∧ c.num ≤ 1000000) ∧ (0 ≤ c.share ∧ c.share ≤ 1000000) := by
  unfold rngF at h
  simp only [Bool.and_eq_true, decide_eq_true_iff] at h
  exact ⟨h.1.1.1.1, time_in h.1.1.1.2, time_in h.1.1.2, time_in h.1.2, time_in h.2⟩
theorem CaOk.six {c : Ca} (h : CaOk c) : ∀ x ∈ sixL c, 0 ≤ x ∧ x ≤ 1000000 := by
  have r := rng_in h.rng
  have n := h.nl
  intro x hx
  unfold sixL at hx
  simp only [List.mem_cons, List.not_mem_nil, or_false] at hx
  rcases hx with e | e | e | e | e | e <;> omega
theorem CaOk.i64 {c : Ca} (h : CaOk c) : ∀ x ∈ sixL c, I64 x := fun x hx => by
  have := h.six x hx
  unfold I64
  omega
theorem CaOk.body_le {c : Ca} (h : CaOk c) : (bodL c).length ≤ 6160 := by
  have a := bys_len (sixL c) h.i64
  have n := h.nl
  have b := h.bl
  have e : (sixL c).length = 6 := rfl
  unfold bodL
  rw [List.length_append, List.length_append]
  omega
theorem CaOk.num_in {c : Ca} (h : CaOk c) : -9223372036854775808 ≤ ((bodL c).length : Int) ∧ ((bodL c).length : Int) ≤ 9223372036854775807 := by
  have := h.body_le
  omega
theorem CaOk.rec_le {c : Ca} (h : CaOk c) : 1 ≤ (recL c).length ∧ (recL c).length ≤ 6170 := by
  have a := num_len h.num_in.1 h.num_in.2
  have b := h.body_le
  unfold recL
  rw [List.length_append]
  omega
theorem CaOk.body_byte {c : Ca} (h : CaOk c) : ∀ x ∈ bodL c, x < 256 := fun x hx => by
  unfold bodL at hx
  rcases List.mem_append.1 hx with q | q
  · rcases List.mem_append.1 q with q | q
    · exact bys_byte _ x q
    · exact h.nb x q
  · exact h.bb x q
theorem CaOk.rec_byte {c : Ca} (h : CaOk c) : ∀ x ∈ recL c, x < 256 := fun x hx => by
  unfold recL at hx
  rcases List.mem_append.1 hx with q | q
  · exact sev_byte _ x q
  · exact h.body_byte x q
theorem recs_byte : ∀ l : List Ca, (∀ c ∈ l, CaOk c) → ∀ x ∈ recs l, x < 256
  | [], _, x, hx => by cases hx
  | c :: l, h, x, hx => by
    rw [recs_cons] at hx
    rcases List.mem_append.1 hx with q | q
    · exact (h c (List.mem_cons_self ..)).rec_byte x q
    · exact recs_byte l (fun d hd => h d (List.mem_cons_of_mem _ hd)) x q

/-! ### what bytes begin with -/
/-- a number is read, and there are not so many bytes behind it -/
def Short (b : List Nat) : Prop := (getL b).2.2 ≠ 0 ∨ (b.length : Int) - ((getL b).2.1 : Int) < (getL b).1
theorem get_rec {c : Ca} (h : CaOk c) (r : List Nat) : getL (recL c ++ r) = (((bodL c).length : Int), (numL ((bodL c).length : Int)).length, 0) := by
  unfold recL
  rw [List.append_assoc]
  exact get_num h.num_in.1 h.num_in.2 _
theorem rec_drop {c : Ca} (r : List Nat) : (recL c ++ r).drop (numL ((bodL c).length : Int)).length = bodL c ++ r := by
  unfold recL
  rw [List.append_assoc, List.drop_left]
theorem short_cut {c : Ca} (h : CaOk c) {k : Nat} (hk : k < (recL c).length) : Short ((recL c).take k) := by
  have nl := num_len h.num_in.1 h.num_in.2
  have rl : (recL c).length = (numL ((bodL c).length : Int)).length + (bodL c).length := by unfold recL; rw [List.length_append]
  unfold Short
  by_cases q : k < (numL ((bodL c).length : Int)).length
  · left
    have e : (recL c).take k = (numL ((bodL c).length : Int)).take k := by
      unfold recL
      rw [List.take_append_of_le_length (by omega)]
    rw [e, get_cut h.num_in.1 h.num_in.2 q]
    decide
  · right
    have e : (recL c).take k = numL ((bodL c).length : Int) ++ (bodL c).take (k - (numL ((bodL c).length : Int)).length) := by
      unfold recL
      rw [List.take_append, List.take_of_length_le (by omega)]
    have el : ((recL c).take k).length = k := by rw [List.length_take]; omega
    rw [el]
    have g : getL ((recL c).take k) = (((bodL c).length : Int), (numL ((bodL c).length : Int)).length, 0) := by rw [e, get_num h.num_in.1 h.num_in.2]
    rw [g]
    show (k : Int) - ((numL ((bodL c).length : Int)).length : Int) < ((bodL c).length : Int)
    omega
theorem short_nil : Short [] := .inl (by decide)
/-- what is left of a call -/
def TailOk (b : List Nat) : Prop := ∃ c k, CaOk c ∧ k < (recL c).length ∧ b = (recL c).take k
theorem TailOk.short {b : List Nat} (h : TailOk b) : Short b := by
  obtain ⟨c, k, a, hk, rfl⟩ := h
  exact short_cut a hk
theorem TailOk.byte {b : List Nat} (h : TailOk b) : ∀ x ∈ b, x < 256 := by
  obtain ⟨c, k, a, hk, rfl⟩ := h
  intro x hx
  exact a.rec_byte x (List.mem_of_mem_take hx)
theorem TailOk.len {b : List Nat} (h : TailOk b) : b.length ≤ 6170 := by
  obtain ⟨c, k, a, hk, rfl⟩ := h
  have := a.rec_le
  rw [List.length_take]
  omega
theorem TailOk.cut {b : List Nat} (h : TailOk b) (n : Nat) : TailOk (b.take n) := by
  obtain ⟨c, k, a, hk, rfl⟩ := h
  exact ⟨c, min n k, a, by omega, by rw [List.take_take]⟩
def caR : Ca := ⟨1, 0, 0, [], 0, 0, []⟩
theorem caR_ok : CaOk caR := ⟨by decide, by decide, by decide, (fun x hx => by cases hx), (fun x hx => by cases hx)⟩
theorem tail_nil : TailOk [] := ⟨caR, 0, caR_ok, caR_ok.rec_le.1, rfl⟩
/-- how many calls so many bytes have whole -/
def fitN : List Ca → Nat → Nat
  | [], _ => 0
  | c :: l, n => if (recL c).length ≤ n then fitN l (n - (recL c).length) + 1 else 0
theorem fitN_le : ∀ (l : List Ca) (n : Nat), fitN l n ≤ l.length
  | [], _ => Nat.le_refl _
  | c :: l, n => by
    have := fitN_le l (n - (recL c).length)
    unfold fitN
    split
    · rw [List.length_cons]; omega
    · exact Nat.zero_le _
theorem fitN_all : ∀ (l : List Ca) (n : Nat), (recs l).length ≤ n → fitN l n = l.length
  | [], _, _ => rfl
  | c :: l, n, h => by
    rw [recs_cons, List.length_append] at h
    unfold fitN
    rw [if_pos (by omega), fitN_all l _ (by omega), List.length_cons]
/-- cut off anywhere, whole calls stand there, and what is left of one -/
theorem cut_at : ∀ (l : List Ca) (t : List Nat) (n : Nat), (∀ c ∈ l, CaOk c) → TailOk t → (recs (l.take (fitN l n))).length ≤ n ∧ ∃ t', TailOk t' ∧ (recs l ++ t).take n = recs (l.take (fitN l n)) ++ t' ∧ ((recs l).length ≤ n → t' = t.take (n - (recs l).length))
  | [], t, n, _, ht => by
    refine ⟨Nat.zero_le _, t.take n, ht.cut n, ?_, fun _ => ?_⟩
    · show t.take n = [] ++ _
      rw [List.nil_append]
    · show _ = t.take (n - 0)
      rw [Nat.sub_zero]
  | c :: l, t, n, h, ht => by
    by_cases q : (recL c).length ≤ n
    · obtain ⟨a, t', b1, b2, b3⟩ := cut_at l t (n - (recL c).length) (fun d hd => h d (List.mem_cons_of_mem _ hd)) ht
      have e : fitN (c :: l) n = fitN l (n - (recL c).length) + 1 := by show (if _ then _ else _) = _; rw [if_pos q]
      rw [e, List.take_succ_cons, recs_cons, recs_cons]
      refine ⟨by rw [List.length_append]; omega, t', b1, ?_, fun z => ?_⟩
      · rw [List.append_assoc, List.take_append, List.take_of_length_le q, b2, List.append_assoc]
      · rw [List.length_append] at z ⊢
        rw [b3 (by omega)]
        congr 1
        omega
    · have e : fitN (c :: l) n = 0 := by show (if _ then _ else _) = _; rw [if_neg q]
      rw [e]
      refine ⟨Nat.zero_le _, (recL c).take n, ⟨c, n, h c (List.mem_cons_self ..), by omega, rfl⟩, ?_, fun z => ?_⟩
      · show _ = [] ++ _
        rw [recs_cons, List.append_assoc, List.take_append_of_le_length (by omega), List.nil_append]
      · rw [recs_cons, List.length_append] at z
        omega
theorem recs_drop {l : List Ca} {k : Nat} (hk : k < l.length) : recs (l.drop k) = recL l[k] ++ recs (l.drop (k + 1)) := by
  rw [List.drop_eq_getElem_cons hk, recs_cons]
theorem recs_split (l : List Ca) (k : Nat) : recs l = recs (l.take k) ++ recs (l.drop k) := by
  rw [← recs_app, List.take_append_drop]
structure Lg where
  calls : List Ca
  tail : List Nat
  safe : Nat
  ahead : Int
  stop : Bool
def Lg.bytes (L : Lg) : List Nat := recs L.calls ++ L.tail
def Lg.whole (L : Lg) : Nat := (recs L.calls).length
structure LgOk (L : Lg) : Prop where
  ok : ∀ c ∈ L.calls, CaOk c
  tl : TailOk L.tail
  wh : L.whole ≤ 100000
  sf : L.safe ≤ L.bytes.length
  ah : I64 L.ahead
theorem LgOk.len {L : Lg} (h : LgOk L) : L.whole ≤ L.bytes.length ∧ L.bytes.length ≤ 106170 := by
  have a := h.tl.len
  have b := h.wh
  unfold Lg.bytes
  unfold Lg.whole at b ⊢
  rw [List.length_append]
  omega
theorem LgOk.byte {L : Lg} (h : LgOk L) : ∀ x ∈ L.bytes, x < 256 := fun x hx => by
  unfold Lg.bytes at hx
  rcases List.mem_append.1 hx with q | q
  · exact recs_byte _ h.ok x q
  · exact h.tl.byte x q
theorem dec_in {a : Int} (h : I64 a) : I64 (if 0 < a then a - 1 else a) := by
  unfold I64 at *
  by_cases q : 0 < a
  · rw [if_pos q]; omega
  · rw [if_neg q]; exact h
def lg0 : Lg := ⟨[], [], 0, -1, false⟩
theorem lg0_ok : LgOk lg0 := ⟨(fun c hc => by cases hc), tail_nil, by decide, by decide, by unfold I64 lg0; decide⟩
/-! ### a step -/
def stpF (L : Lg) : Bool := L.stop || decide (L.ahead = 0)
def stpL (L : Lg) : Lg := ⟨L.calls, L.tail, L.safe, if stpF L = true then L.ahead else if 0 < L.ahead then L.ahead - 1 else L.ahead, stpF L⟩
theorem stp_ok {L : Lg} (h : LgOk L) : LgOk (stpL L) := ⟨h.ok, h.tl, h.wh, h.sf, by
  unfold stpL
  by_cases q : stpF L = true
  · simp only [if_pos q]; exact h.ah
  · simp only [if_neg q]; exact dec_in h.ah⟩
/-! ### cut off -/
def cutG (L : Lg) (n : Nat) : Lg := ⟨L.calls.take (fitN L.calls n), (L.bytes.take n).drop (recs (L.calls.take (fitN L.calls n))).length, min L.safe n, L.ahead, L.stop⟩
theorem cutG_tail {L : Lg} (h : LgOk L) (n : Nat) : TailOk (cutG L n).tail ∧ (cutG L n).bytes = L.bytes.take n := by
  obtain ⟨a, t', b1, b2, b3⟩ := cut_at L.calls L.tail n h.ok h.tl
  have e : (cutG L n).tail = t' := by
    show ((recs L.calls ++ L.tail).take n).drop _ = _
    rw [b2, List.drop_left]
  rw [e]
  refine ⟨b1, ?_⟩
  show recs (L.calls.take (fitN L.calls n)) ++ (cutG L n).tail = (recs L.calls ++ L.tail).take n
  rw [e, b2]
theorem cutG_ok {L : Lg} (h : LgOk L) (n : Nat) (hn : n ≤ L.bytes.length) : LgOk (cutG L n) := by
  obtain ⟨t1, t2⟩ := cutG_tail h n
  refine ⟨fun c hc => h.ok c (List.mem_of_mem_take hc), t1, ?_, ?_, h.ah⟩
  · have w := h.wh
    have e := recs_split L.calls (fitN L.calls n)
    have e2 := congrArg List.length e
    rw [List.length_append] at e2
    show (recs (L.calls.take (fitN L.calls n))).length ≤ _
    unfold Lg.whole at w
    omega
  · rw [t2, List.length_take]
    show min L.safe n ≤ _
    have := h.sf
    omega
theorem cutG_whole {L : Lg} (h : LgOk L) : cutG L L.whole = ⟨L.calls, [], min L.safe L.whole, L.ahead, L.stop⟩ := by
  have f : fitN L.calls L.whole = L.calls.length := fitN_all _ _ (Nat.le_refl _)
  unfold cutG
  rw [f, List.take_length]
  have e : (L.bytes.take L.whole).drop (recs L.calls).length = [] := List.drop_eq_nil_of_le (by
    rw [List.length_take]
    show min (recs L.calls).length _ ≤ _
    omega)
  rw [e]
theorem cutG_more {L : Lg} (h : LgOk L) {n : Nat} (hn : L.whole ≤ n) : (cutG L n).whole = L.whole := by
  show (recs (L.calls.take (fitN L.calls n))).length = _
  rw [fitN_all _ _ hn, List.take_length]
  rfl
/-! ### a call is appended -/
def apF (L : Lg) (c : Ca) : Int := if rngF c = false then 1 else if 100 < c.name.length ∨ 6000 < c.bys.length ∨ 100000 < L.whole + (recL c).length then 4 else if stpF L = true then 9 else 0
def apL (L : Lg) (c : Ca) : Lg := if apF L c = 1 ∨ apF L c = 4 ∨ L.stop = true then L else if L.ahead = 0 then ⟨L.calls, (recL c).take ((recL c).length / 2), min L.safe L.whole, L.ahead, true⟩ else ⟨L.calls ++ [c], [], min L.safe L.whole, if 0 < L.ahead then L.ahead - 1 else L.ahead, L.stop⟩
def crN (L : Lg) (keep : Int) : Nat := L.safe + min keep.toNat (L.bytes.length - L.safe)
def crL (L : Lg) (keep : Int) : Lg := ⟨(cutG L (crN L keep)).calls, (cutG L (crN L keep)).tail, (cutG L (crN L keep)).bytes.length, -1, false⟩
def syF (L : Lg) : Int := if stpF L = true then 9 else 0
def syL (L : Lg) : Lg := if stpF L = true then stpL L else ⟨L.calls, L.tail, L.bytes.length, (stpL L).ahead, false⟩
theorem crN_le {L : Lg} (h : LgOk L) (keep : Int) : L.safe ≤ crN L keep ∧ crN L keep ≤ L.bytes.length := by
  have := h.sf
  unfold crN
  omega
theorem cr_ok {L : Lg} (h : LgOk L) (keep : Int) : LgOk (crL L keep) := by
  have a := cutG_ok h (crN L keep) (crN_le h keep).2
  exact ⟨a.ok, a.tl, a.wh, Nat.le_refl _, ⟨(by decide : (-9223372036854775808 : Int) ≤ -1), (by decide : (-1 : Int) ≤ 9223372036854775807)⟩⟩
theorem cr_bytes {L : Lg} (h : LgOk L) (keep : Int) : (crL L keep).bytes = L.bytes.take (crN L keep) := (cutG_tail h _).2
theorem cr_safe {L : Lg} (h : LgOk L) (keep : Int) : (crL L keep).safe = crN L keep := by
  show (cutG L (crN L keep)).bytes.length = _
  rw [(cutG_tail h _).2, List.length_take]
  have := crN_le h keep
  omega
theorem sy_ok {L : Lg} (h : LgOk L) : LgOk (syL L) := by
  unfold syL
  split
  · exact stp_ok h
  · exact ⟨h.ok, h.tl, h.wh, Nat.le_refl _, (stp_ok h).ah⟩
theorem ca_ok {L : Lg} {c : Ca} (h1 : apF L c ≠ 1) (h4 : apF L c ≠ 4) (nb : ∀ x ∈ c.name, x < 256) (bb : ∀ x ∈ c.bys, x < 256) : CaOk c ∧ L.whole + (recL c).length ≤ 100000 ∧ apF L c = if stpF L = true then 9 else 0 := by
  unfold apF at *
  by_cases q : rngF c = false
  · rw [if_pos q] at h1; exact absurd rfl h1
  · rw [if_neg q] at h1 h4 ⊢
    by_cases z : 100 < c.name.length ∨ 6000 < c.bys.length ∨ 100000 < L.whole + (recL c).length
    · rw [if_pos z] at h4; exact absurd rfl h4
    · rw [if_neg z]
      exact ⟨⟨by simpa using q, by omega, by omega, nb, bb⟩, by omega, rfl⟩
theorem ap_ok {L : Lg} (h : LgOk L) {c : Ca} (nb : ∀ x ∈ c.name, x < 256) (bb : ∀ x ∈ c.bys, x < 256) : LgOk (apL L c) := by
  unfold apL
  by_cases q : apF L c = 1 ∨ apF L c = 4 ∨ L.stop = true
  · rw [if_pos q]; exact h
  · rw [if_neg q]
    obtain ⟨k1, k2, k3⟩ := ca_ok (L := L) (c := c) (fun e => q (.inl e)) (fun e => q (.inr (.inl e))) nb bb
    have rl := k1.rec_le
    have ah := h.ah
    by_cases z : L.ahead = 0
    · rw [if_pos z]
      refine ⟨h.ok, ⟨c, _, k1, by omega, rfl⟩, h.wh, ?_, h.ah⟩
      show min L.safe L.whole ≤ (recs L.calls ++ _).length
      rw [List.length_append]
      unfold Lg.whole
      omega
    · rw [if_neg z]
      have we : (recs (L.calls ++ [c])).length = L.whole + (recL c).length := by rw [recs_app, recs_one, List.length_append]; rfl
      refine ⟨fun d hd => ?_, tail_nil, ?_, ?_, ?_⟩
      · rcases List.mem_append.1 hd with y | y
        · exact h.ok d y
        · rw [List.mem_singleton] at y; subst y; exact k1
      · show (recs (L.calls ++ [c])).length ≤ _
        rw [we]; exact k2
      · show min L.safe L.whole ≤ (recs (L.calls ++ [c]) ++ []).length
        rw [List.append_nil, we]
        omega
      · exact dec_in h.ah
end Go.Proofs.YtodidokeblblgaaGreatDoor.M

namespace Go.Proofs.YtodidokeblblgaaGreatDoor
open Go.ChangeShapes Go.WideShapes Go.ChangeAt Go.RowKit Go.Lib
set_option linter.unusedVariables false
def isB (n : List Nat) : Prop := ∀ x ∈ n, x < 256
def caV (c : M.Ca) (a : Option Addr) (cap : Nat) : Value := .agg #[.int .i64 c.what, .int .i64 c.ses, .int .i64 c.seq, .string (byStr c.name), .int .i64 c.num, .int .i64 c.share, .slice a c.bys.length cap]
def I64 (x : Int) : Prop := -9223372036854775808 ≤ x ∧ x ≤ 9223372036854775807
/-- a call as it comes: its bytes lie where they can be read -/
structure CaIn (W : World) (c : M.Ca) (a : Option Addr) (cap : Nat) : Prop where
  nb : isB c.name
  nl : c.name.length ≤ 9223372036854775807
  rd : RdB W a c.bys
  le : c.bys.length ≤ cap
  cp : cap ≤ 9223372036854775807
  num : I64 c.num
  shr : I64 c.share
  nil : a = none → cap = 0
abbrev CaC := M.Ca × Option Addr × Nat
def ca0 : CaC := (⟨0, 0, 0, [], 0, 0, []⟩, none, 0)
def SevenAt (w : World) (b off : Nat) (k : CaC) : Prop := w.cell? ⟨b, off, none⟩ = some (.int .i64 k.1.what) ∧ w.cell? ⟨b, off + 1, none⟩ = some (.int .i64 k.1.ses) ∧ w.cell? ⟨b, off + 2, none⟩ = some (.int .i64 k.1.seq) ∧ w.cell? ⟨b, off + 3, none⟩ = some (.string (byStr k.1.name)) ∧ w.cell? ⟨b, off + 4, none⟩ = some (.int .i64 k.1.num) ∧ w.cell? ⟨b, off + 5, none⟩ = some (.int .i64 k.1.share) ∧ w.cell? ⟨b, off + 6, none⟩ = some (.slice k.2.1 k.1.bys.length k.2.2)
/-- calls, where they lie -/
def RdC (w : World) (a : Option Addr) (l : List CaC) : Prop :=
  l.length ≤ maxLen ∧ (∀ k ∈ l, CaIn w k.1 k.2.1 k.2.2) ∧ (l ≠ [] → ∃ b off, a = some ⟨b, off, none⟩ ∧ b < w.heap.size ∧ ∀ i, i < l.length → SevenAt w b (off + i * 7) (l.getD i ca0))
theorem CaIn.below {w w' : World} {c : M.Ca} {a : Option Addr} {cap : Nat} (h : CaIn w c a cap) (hb : Below w.heap.size w w') : CaIn w' c a cap := ⟨h.nb, h.nl, h.rd.below hb, h.le, h.cp, h.num, h.shr, h.nil⟩
theorem RdC.below {w w' : World} {a : Option Addr} {l : List CaC} (h : RdC w a l) (hb : Below w.heap.size w w') : RdC w' a l :=
  ⟨h.1, fun k hk => (h.2.1 k hk).below hb, fun hn => by
    obtain ⟨b, off, e, hl, hc⟩ := h.2.2 hn
    have k : ∀ j v, w.cell? ⟨b, j, none⟩ = some v → w'.cell? ⟨b, j, none⟩ = some v := fun j v hv => (hb.cell (p := ⟨b, j, none⟩) hl).trans hv
    exact ⟨b, off, e, Nat.lt_of_lt_of_le hl hb.size, fun i hi => ⟨k _ _ (hc i hi).1, k _ _ (hc i hi).2.1, k _ _ (hc i hi).2.2.1, k _ _ (hc i hi).2.2.2.1, k _ _ (hc i hi).2.2.2.2.1, k _ _ (hc i hi).2.2.2.2.2.1, k _ _ (hc i hi).2.2.2.2.2.2⟩⟩⟩
theorem RdC.at {w : World} {a : Option Addr} {l : List CaC} (h : RdC w a l) {k : Nat} (hk : k < l.length) : ∃ b off, a = some ⟨b, off, none⟩ ∧ b < w.heap.size ∧ SevenAt w b (off + k * 7) (l.getD k ca0) ∧ CaIn w (l.getD k ca0).1 (l.getD k ca0).2.1 (l.getD k ca0).2.2 := by
  obtain ⟨b, off, e, hb, hc⟩ := h.2.2 (by intro e; rw [e] at hk; simp at hk)
  exact ⟨b, off, e, hb, hc k hk, h.2.1 _ (by rw [List.getD, List.getElem?_eq_getElem hk]; exact List.getElem_mem hk)⟩
theorem M.gt_le : ∀ (b : List Nat) (i x : Nat), (M.gtK b i x).2.1 ≤ i + b.length
  | [], i, x => by show 0 ≤ i + 0; omega
  | c :: r, i, x => by
    have ih := M.gt_le r (i + 1) (x + c % 128 * 128 ^ i)
    show (if (i = 9 ∧ 1 < c) ∨ (0 < i ∧ c = 0) then ((0 : Int), (0 : Nat), (2 : Int)) else if c < 128 then (M.unz (x + c % 128 * 128 ^ i), i + 1, 0) else M.gtK r (i + 1) (x + c % 128 * 128 ^ i)).2.1 ≤ i + (r.length + 1)
    split
    · exact Nat.zero_le _
    · split
      · show i + 1 ≤ _; omega
      · omega
theorem M.get_le (b : List Nat) : (M.getL b).2.1 ≤ b.length := by
  have := M.gt_le b 0 0
  rw [Nat.zero_add] at this
  exact this
theorem M.rNum_fin {b : List Nat} {s : M.In} (h : s.fin ≤ b.length) : (M.rNum b s).2.fin ≤ b.length := by
  by_cases q : s.bad = 0
  · rw [M.rNum_go q]
    have := M.get_le (b.drop s.fin)
    rw [List.length_drop] at this
    show s.fin + _ ≤ _
    omega
  · rw [M.rNum_bad q]; exact h
theorem M.rMany_fin {b : List Nat} {s : M.In} {most : Int} (h : s.fin ≤ b.length) : (M.rMany b most s).2.fin ≤ b.length := by
  have := M.rNum_fin h
  unfold M.rMany
  split
  · exact this
  · split
    · exact this
    · exact this
/-- a cell is written -/
theorem cell_set_same {W : World} {g o : Nat} {u v : Value} (h : W.cell? ⟨g, o, none⟩ = some u) : (W.setCell ⟨g, o, none⟩ v).cell? ⟨g, o, none⟩ = some v := World.cell?_setCell_same _ _ _ h
theorem cell_set_other {W : World} {g o j : Nat} {u v : Value} (h : W.cell? ⟨g, j, none⟩ = some u) (hj : o ≠ j) : (W.setCell ⟨g, o, none⟩ v).cell? ⟨g, j, none⟩ = some u := (World.cell?_setCell_other _ _ _ _ (by intro e; cases e; exact hj rfl)).trans h
theorem frozen_set {W : World} {g o j : Nat} {v : Value} (h : W.frozen? ⟨g, j, none⟩ = false) : (W.setCell ⟨g, o, none⟩ v).frozen? ⟨g, j, none⟩ = false := by rw [World.frozen?_setCell]; exact h
theorem rdB_keep {W W' : World} {a : Option Addr} {xs : List Nat} (h : RdB W a xs) (hk : xs ≠ [] → ∀ p, a = some p → W'.heap[p.block]? = W.heap[p.block]?) (hz : W.heap.size ≤ W'.heap.size) : RdB W' a xs :=
  ⟨h.1, h.2.1, fun hn => by
    obtain ⟨b, off, e, hl, hc⟩ := h.2.2 hn
    have hb : W'.heap[b]? = W.heap[b]? := hk hn _ e
    exact ⟨b, off, e, Nat.lt_of_lt_of_le hl hz, fun i hi => (World.cell?_of_block (a := ⟨b, _, none⟩) hb).trans (hc i hi)⟩⟩
end Go.Proofs.YtodidokeblblgaaGreatDoor

namespace Go.Proofs.YtodidokeblblgaaGreatDoor.M
set_option linter.unusedVariables false
/-- of two versions of one name that are live, or canaries, there is one -/
def oneV (a b : Vn × Gv) : Prop := ¬ (a.1.name = b.1.name ∧ a.1.stage = b.1.stage ∧ (a.1.stage = 3 ∨ a.1.stage = 2))
def shrV (v : Vn × Gv) : Prop := (0 < v.1.share ↔ v.1.stage = 2)
structure ShOk (s : Sh) : Prop where
  one : ∀ i j d, i < j → j < s.l.length → oneV (s.l.getD i d) (s.l.getD j d)
  shr : ∀ i d, i < s.l.length → shrV (s.l.getD i d)
  i0 : 0 ≤ s.idx
  ans : ∀ d ∈ s.done, d.bad = 0 → 1 ≤ d.ans.idx ∧ d.ans.idx ≤ s.idx
theorem ok_zero : ShOk sh0 := ⟨fun i j d h1 h2 => by simp [sh0] at h2, (fun i d hi => by simp [sh0] at hi), Int.le_refl _, (fun d hd => by cases hd)⟩
theorem find_none {α : Type} (p : α → Bool) : ∀ (l : List α) (k : Nat), findN p l k = none → ∀ x ∈ l, p x = false
  | [], k, _, x, hx => by cases hx
  | y :: l, k, h, x, hx => by
    unfold findN at h
    by_cases q : p y = true
    · rw [if_pos q] at h; cases h
    · rw [if_neg q] at h
      rcases List.mem_cons.1 hx with rfl | hx
      · simpa using q
      · exact find_none p l (k + 1) h x hx
theorem mod_at {α : Type} {l : List α} {f : α → α} {k i : Nat} {d : α} (h : i < l.length) : (l.modify k f).getD i d = if k = i then f (l.getD i d) else l.getD i d := by
  have h' : i < (l.modify k f).length := by rw [List.length_modify]; exact h
  rw [List.getD, List.getElem?_eq_getElem h', List.getD, List.getElem?_eq_getElem h]
  show (l.modify k f)[i] = if k = i then f l[i] else l[i]
  rw [List.getElem_modify]

def oneL (l : List (Vn × Gv)) : Prop := ∀ i j d, i < j → j < l.length → oneV (l.getD i d) (l.getD j d)
def shrL (l : List (Vn × Gv)) : Prop := ∀ i d, i < l.length → shrV (l.getD i d)
theorem one_app {l : List (Vn × Gv)} (h : oneL l) {x : Vn × Gv} (h1 : x.1.stage = 1) : oneL (l ++ [x]) := by
  intro i j d hij hj
  rw [List.length_append, List.length_singleton] at hj
  by_cases q : j < l.length
  · have e1 : (l ++ [x]).getD i d = l.getD i d := by simp [List.getD, List.getElem?_append_left (show i < l.length by omega)]
    have e2 : (l ++ [x]).getD j d = l.getD j d := by simp [List.getD, List.getElem?_append_left q]
    rw [e1, e2]
    exact h i j d hij q
  · have ej : j = l.length := by omega
    have e2 : (l ++ [x]).getD j d = x := by rw [ej]; simp [List.getD]
    rw [e2]
    rintro ⟨_, b, c⟩
    rw [b, h1] at c
    omega
theorem shr_app {l : List (Vn × Gv)} (h : shrL l) {x : Vn × Gv} (hx : shrV x) : shrL (l ++ [x]) := by
  intro i d hi
  rw [List.length_append, List.length_singleton] at hi
  by_cases q : i < l.length
  · have e1 : (l ++ [x]).getD i d = l.getD i d := by simp [List.getD, List.getElem?_append_left q]
    rw [e1]
    exact h i d q
  · have ej : i = l.length := by omega
    have e2 : (l ++ [x]).getD i d = x := by rw [ej]; simp [List.getD]
    rw [e2]
    exact hx
theorem one_set {l : List (Vn × Gv)} (h : oneL l) {k : Nat} {st sh : Int} (hk : k < l.length) (hn : (st = 3 ∨ st = 2) → ∀ i d, i < l.length → i ≠ k → ¬ ((l.getD i d).1.name = (l.getD k d).1.name ∧ (l.getD i d).1.stage = st)) : oneL (setV l k st sh) := by
  intro i j d hij hj
  unfold setV at hj ⊢
  rw [List.length_modify] at hj
  rw [mod_at (show i < l.length by omega), mod_at hj]
  by_cases q1 : k = i
  · subst q1
    rw [if_pos rfl, if_neg (by omega)]
    rintro ⟨a, b, c⟩
    exact hn c j d hj (by omega) ⟨a.symm, b.symm⟩
  · rw [if_neg q1]
    by_cases q2 : k = j
    · subst q2
      rw [if_pos rfl]
      rintro ⟨a, b, c⟩
      have b' : (l.getD i d).1.stage = st := b
      rw [b'] at c
      exact hn c i d (by omega) (by omega) ⟨a, b'⟩
    · rw [if_neg q2]
      exact h i j d hij hj
theorem shr_set {l : List (Vn × Gv)} (h : shrL l) {k : Nat} {st sh : Int} (hs : 0 < sh ↔ st = 2) : shrL (setV l k st sh) := by
  intro i d hi
  unfold setV at hi ⊢
  rw [List.length_modify] at hi
  rw [mod_at hi]
  by_cases q : k = i
  · rw [if_pos q]; exact hs
  · rw [if_neg q]; exact h i d hi
theorem gone_one {l : List (Vn × Gv)} (h : oneL l) (o : Nat) : oneL (setS l o 4) := by
  intro i j d hij hj
  unfold setS at hj ⊢
  rw [List.length_modify] at hj
  rw [mod_at (show i < l.length by omega), mod_at hj]
  by_cases q1 : o = i
  · subst q1
    rw [if_pos rfl, if_neg (by omega)]
    rintro ⟨a, b, c⟩
    have c' : (4 : Int) = 3 ∨ (4 : Int) = 2 := c
    omega
  · rw [if_neg q1]
    by_cases q2 : o = j
    · subst q2
      rw [if_pos rfl]
      rintro ⟨a, b, c⟩
      have b' : (l.getD i d).1.stage = 4 := b
      rw [b'] at c
      omega
    · rw [if_neg q2]
      exact h i j d hij hj
theorem gone_shr {l : List (Vn × Gv)} (h : shrL l) {o : Nat} (ho : ∀ d, (l.getD o d).1.stage = 3) : shrL (setS l o 4) := by
  intro i d hi
  unfold setS at hi ⊢
  rw [List.length_modify] at hi
  rw [mod_at hi]
  by_cases q : o = i
  · subst q
    rw [if_pos rfl]
    have a := h o d hi
    have b := ho d
    unfold shrV at a ⊢
    show 0 < (l.getD o d).1.share ↔ (4 : Int) = 2
    rw [a, b]
    decide
  · rw [if_neg q]; exact h i d hi
/-- what a call does keeps it so -/
theorem act_ok {s : Sh} (h1 : oneL s.l) (h2 : shrL s.l) (c : Ca) : oneL (act s c).2.2 ∧ shrL (act s c).2.2 := by
  unfold act
  by_cases w1 : c.what = 1
  · rw [if_pos w1]
    by_cases e : (decF c.bys).2 ≠ 0
    · rw [if_pos e]; exact ⟨h1, h2⟩
    · rw [if_neg e]
      by_cases f : many s c.name = 0 ∧ 8 ≤ names s
      · rw [if_pos f]; exact ⟨h1, h2⟩
      · rw [if_neg f]
        refine ⟨one_app h1 rfl, shr_app h2 ?_⟩
        show (0 : Int) < 0 ↔ (1 : Int) = 2
        decide
  · rw [if_neg w1]
    cases hv : verN s c.name c.num with
    | none => exact ⟨h1, h2⟩
    | some k =>
      obtain ⟨_, hk, hp⟩ := find_more _ s.l 0 k hv
      rw [Nat.sub_zero] at hk hp
      have hkn : ∀ d, (s.l.getD k d).1.name = c.name := fun d => (of_decide_eq_true (hp d)).1
      simp only
      by_cases w2 : c.what = 2
      · rw [if_pos w2]
        by_cases a1 : c.share < 1 ∨ 99 < c.share
        · rw [if_pos a1]; exact ⟨h1, h2⟩
        · rw [if_neg a1]
          by_cases a2 : (s.l.map fun v => v.1.stage).getD k 0 ≠ 1
          · rw [if_pos a2]; exact ⟨h1, h2⟩
          · rw [if_neg a2]
            by_cases a3 : (atN s c.name 2).isSome = true
            · rw [if_pos a3]; exact ⟨h1, h2⟩
            · rw [if_neg a3]
              have no : atN s c.name 2 = none := by cases q : atN s c.name 2 with | none => rfl | some _ => rw [q] at a3; exact absurd rfl a3
              refine ⟨one_set h1 hk fun _ i d hi _ => ?_, shr_set h2 (by constructor <;> intro <;> omega)⟩
              have := find_none _ s.l 0 no (s.l.getD i d) (by rw [List.getD, List.getElem?_eq_getElem hi]; exact List.getElem_mem hi)
              rw [hkn d]
              exact of_decide_eq_false this
      · rw [if_neg w2]
        by_cases w3 : c.what = 3
        · rw [if_pos w3]
          by_cases b1 : (s.l.map fun v => v.1.stage).getD k 0 ≠ 1 ∧ (s.l.map fun v => v.1.stage).getD k 0 ≠ 2
          · rw [if_pos b1]; exact ⟨h1, h2⟩
          · rw [if_neg b1]
            cases ho : atN s c.name 3 with
            | none =>
              refine ⟨one_set h1 hk fun _ i d hi _ => ?_, shr_set h2 (by decide)⟩
              have := find_none _ s.l 0 ho (s.l.getD i d) (by rw [List.getD, List.getElem?_eq_getElem hi]; exact List.getElem_mem hi)
              rw [hkn d]
              exact of_decide_eq_false this
            | some o =>
              obtain ⟨_, hol, hop⟩ := find_more _ s.l 0 o ho
              rw [Nat.sub_zero] at hol hop
              have on : ∀ d, (s.l.getD o d).1.name = c.name ∧ (s.l.getD o d).1.stage = 3 := fun d => of_decide_eq_true (hop d)
              have g1 := gone_one h1 o
              have g2 := gone_shr h2 (fun d => (on d).2)
              have gl : (setS s.l o 4).length = s.l.length := by unfold setS; rw [List.length_modify]
              refine ⟨one_set g1 (by rw [gl]; exact hk) fun _ i d hi hne => ?_, shr_set g2 (by decide)⟩
              rw [gl] at hi
              unfold setS
              rw [mod_at hi, mod_at hk]
              rintro ⟨x, y⟩
              by_cases q : o = i
              · rw [if_pos q] at y
                have y' : (4 : Int) = 3 := y
                omega
              · rw [if_neg q] at x y
                have x' : (s.l.getD i d).1.name = c.name := by
                  rw [x]
                  split
                  · exact hkn d
                  · exact hkn d
                rcases Nat.lt_or_gt_of_ne q with z | z
                · exact h1 o i d z hi ⟨by rw [(on d).1, x'], by rw [(on d).2, y], .inl (on d).2⟩
                · exact h1 i o d z hol ⟨by rw [(on d).1, x'], by rw [(on d).2, y], .inl y⟩
        · rw [if_neg w3]
          by_cases b4 : (s.l.map fun v => v.1.stage).getD k 0 = 4
          · rw [if_pos b4]; exact ⟨h1, h2⟩
          · rw [if_neg b4]
            exact ⟨one_set h1 hk (fun q => by omega), shr_set h2 (by decide)⟩

/-- a call keeps it so; its answer is within what was done; it counts once at most -/
theorem do_ok {s : Sh} (h : ShOk s) (c : Ca) : ShOk (shDo s c).2.2 ∧ ((shDo s c).2.1 = 0 → 1 ≤ (shDo s c).1.idx ∧ (shDo s c).1.idx ≤ (shDo s c).2.2.idx) ∧ s.idx ≤ (shDo s c).2.2.idx ∧ (shDo s c).2.2.idx ≤ s.idx + 1 := by
  obtain ⟨o1, o2⟩ := act_ok h.one h.shr c
  have i0 := h.i0
  by_cases f : callF c = 0
  case neg =>
    have e : shDo s c = (an0, callF c, s) := by unfold shDo; rw [if_pos f]
    rw [e]
    exact ⟨h, fun q => absurd q f, Int.le_refl _, by show s.idx ≤ s.idx + 1; omega⟩
  have new : ∀ D : List Dn, (∀ d ∈ D, d ∈ s.done ∨ d = ⟨c.ses, c.seq, if (act s c).2.1 = 0 then ⟨(act s c).1, s.idx + 1⟩ else an0, (act s c).2.1⟩) → ShOk ⟨s.idx + 1, (act s c).2.2, D⟩ := fun D hD => by
    refine ⟨o1, o2, by show 0 ≤ s.idx + 1; omega, fun d hd hb => ?_⟩
    show 1 ≤ d.ans.idx ∧ d.ans.idx ≤ s.idx + 1
    rcases hD d hd with q | q
    · have := h.ans d q hb
      exact ⟨this.1, by omega⟩
    · subst q
      have hb' : (act s c).2.1 = 0 := hb
      show 1 ≤ (if (act s c).2.1 = 0 then (⟨(act s c).1, s.idx + 1⟩ : An) else an0).idx ∧ (if (act s c).2.1 = 0 then (⟨(act s c).1, s.idx + 1⟩ : An) else an0).idx ≤ s.idx + 1
      rw [if_pos hb']
      exact ⟨by show 1 ≤ s.idx + 1; omega, Int.le_refl _⟩
  have ind : (act s c).2.1 = 0 → 1 ≤ (if (act s c).2.1 = 0 then (⟨(act s c).1, s.idx + 1⟩ : An) else an0).idx ∧ (if (act s c).2.1 = 0 then (⟨(act s c).1, s.idx + 1⟩ : An) else an0).idx ≤ s.idx + 1 := fun q => by
    rw [if_pos q]
    exact ⟨by show 1 ≤ s.idx + 1; omega, Int.le_refl _⟩
  cases hl : lastN s c.ses with
  | none =>
    have e : shDo s c = (if (act s c).2.1 = 0 then ⟨(act s c).1, s.idx + 1⟩ else an0, (act s c).2.1, ⟨s.idx + 1, (act s c).2.2, s.done ++ [⟨c.ses, c.seq, if (act s c).2.1 = 0 then ⟨(act s c).1, s.idx + 1⟩ else an0, (act s c).2.1⟩]⟩) := by
      unfold shDo; rw [if_neg (by simp [f]), hl]
    rw [e]
    exact ⟨new _ fun d hd => by simpa using hd, ind, by show s.idx ≤ s.idx + 1; omega, Int.le_refl _⟩
  | some k =>
    obtain ⟨h1, h2, h3⟩ := find_more _ s.done 0 k hl
    rw [Nat.sub_zero] at h2 h3
    by_cases q1 : (s.done.getD k ⟨0, 0, an0, 0⟩).seq = c.seq
    · have e : shDo s c = ((s.done.getD k ⟨0, 0, an0, 0⟩).ans, (s.done.getD k ⟨0, 0, an0, 0⟩).bad, s) := by
        unfold shDo; rw [if_neg (by simp [f]), hl]; simp only [q1, if_true]
      rw [e]
      exact ⟨h, fun q => h.ans _ (by rw [List.getD, List.getElem?_eq_getElem h2]; exact List.getElem_mem h2) q, Int.le_refl _, by show s.idx ≤ s.idx + 1; omega⟩
    · by_cases q2 : c.seq < (s.done.getD k ⟨0, 0, an0, 0⟩).seq
      · have e : shDo s c = (an0, 6, s) := by
          unfold shDo; rw [if_neg (by simp [f]), hl]; simp only [if_neg q1, if_pos q2]
        rw [e]
        exact ⟨h, (fun q => by cases q), Int.le_refl _, by show s.idx ≤ s.idx + 1; omega⟩
      · have e : shDo s c = (if (act s c).2.1 = 0 then ⟨(act s c).1, s.idx + 1⟩ else an0, (act s c).2.1, ⟨s.idx + 1, (act s c).2.2, s.done.set k ⟨c.ses, c.seq, if (act s c).2.1 = 0 then ⟨(act s c).1, s.idx + 1⟩ else an0, (act s c).2.1⟩⟩) := by
          unfold shDo; rw [if_neg (by simp [f]), hl]; simp only [if_neg q1, if_neg q2]
        rw [e]
        exact ⟨new _ fun d hd => (List.mem_or_eq_of_mem_set hd), ind, by show s.idx ≤ s.idx + 1; omega, Int.le_refl _⟩
/-! ### which name is ahead -/
def nmLt : List Nat → List Nat → Bool
  | [], [] => false
  | [], _ :: _ => true
  | _ :: _, [] => false
  | a :: x, b :: y => if a < b then true else if b < a then false else nmLt x y
theorem nm_irr : ∀ a, nmLt a a = false
  | [] => rfl
  | a :: x => by
    show (if a < a then true else if a < a then false else nmLt x x) = false
    rw [if_neg (Nat.lt_irrefl _), if_neg (Nat.lt_irrefl _)]
    exact nm_irr x
theorem nm_total : ∀ a b, a ≠ b → nmLt a b = true ∨ nmLt b a = true
  | [], [], h => absurd rfl h
  | [], _ :: _, _ => .inl rfl
  | _ :: _, [], _ => .inr rfl
  | a :: x, b :: y, h => by
    show (if a < b then true else if b < a then false else nmLt x y) = true ∨ (if b < a then true else if a < b then false else nmLt y x) = true
    by_cases p : a < b
    · exact .inl (by rw [if_pos p])
    · by_cases q : b < a
      · exact .inr (by rw [if_pos q])
      · have e : a = b := by omega
        rw [if_neg p, if_neg q, if_neg q, if_neg p]
        exact nm_total x y (fun z => h (by rw [e, z]))
theorem nm_trans : ∀ a b c, nmLt a b = true → nmLt b c = true → nmLt a c = true
  | [], [], _, h, _ => by cases h
  | [], _ :: _, [], _, h => by cases h
  | [], _ :: _, _ :: _, _, _ => rfl
  | _ :: _, [], _, h, _ => by cases h
  | _ :: _, _ :: _, [], _, h => by cases h
  | a :: x, b :: y, c :: z, h1, h2 => by
    have h1 : (if a < b then true else if b < a then false else nmLt x y) = true := h1
    have h2 : (if b < c then true else if c < b then false else nmLt y z) = true := h2
    show (if a < c then true else if c < a then false else nmLt x z) = true
    by_cases p : a < b
    · by_cases q : b < c
      · rw [if_pos (by omega)]
      · by_cases r : c < b
        · rw [if_neg q, if_pos r] at h2; cases h2
        · rw [if_pos (by omega)]
    · by_cases p' : b < a
      · rw [if_neg p, if_pos p'] at h1; cases h1
      · rw [if_neg p, if_neg p'] at h1
        by_cases q : b < c
        · rw [if_pos (by omega)]
        · by_cases r : c < b
          · rw [if_neg q, if_pos r] at h2; cases h2
          · rw [if_neg q, if_neg r] at h2
            rw [if_neg (by omega), if_neg (by omega)]
            exact nm_trans x y z h1 h2
theorem nm_asym {a b : List Nat} (h : nmLt a b = true) : nmLt b a = false := by
  cases q : nmLt b a with
  | false => rfl
  | true => have := nm_trans a b a h q; rw [nm_irr] at this; cases this
/-! ### which version is -/
def vLt (a b : Vn) : Bool := nmLt a.name b.name || (decide (a.name = b.name) && decide (a.num < b.num))
theorem v_asym {a b : Vn} (h : vLt a b = true) : vLt b a = false := by
  unfold vLt at h ⊢
  rw [Bool.or_eq_true] at h
  rcases h with h | h
  · rw [nm_asym h]
    have : b.name ≠ a.name := fun e => by rw [e, nm_irr] at h; cases h
    rw [decide_eq_false this]
    rfl
  · rw [Bool.and_eq_true, decide_eq_true_iff, decide_eq_true_iff] at h
    rw [h.1, nm_irr, decide_eq_false (show ¬ b.num < a.num by omega)]
    simp
theorem v_trans {a b c : Vn} (h1 : vLt a b = true) (h2 : vLt b c = true) : vLt a c = true := by
  unfold vLt at h1 h2 ⊢
  rw [Bool.or_eq_true, Bool.and_eq_true, decide_eq_true_iff, decide_eq_true_iff] at h1 h2
  rw [Bool.or_eq_true, Bool.and_eq_true, decide_eq_true_iff, decide_eq_true_iff]
  rcases h1 with h1 | ⟨h1, k1⟩
  · rcases h2 with h2 | ⟨h2, k2⟩
    · exact .inl (nm_trans _ _ _ h1 h2)
    · exact .inl (by rw [← h2]; exact h1)
  · rcases h2 with h2 | ⟨h2, k2⟩
    · exact .inl (by rw [h1]; exact h2)
    · exact .inr ⟨h1.trans h2, by omega⟩
theorem v_total {a b : Vn} (h : ¬ (a.name = b.name ∧ a.num = b.num)) : vLt a b = true ∨ vLt b a = true := by
  unfold vLt
  by_cases e : a.name = b.name
  · by_cases q : a.num < b.num
    · exact .inl (by rw [decide_eq_true e, decide_eq_true q]; simp)
    · refine .inr ?_
      rw [decide_eq_true e.symm, decide_eq_true (show b.num < a.num by have : a.num ≠ b.num := fun z => h ⟨e, z⟩; omega)]
      simp
  · rcases nm_total _ _ e with q | q
    · exact .inl (by rw [q]; rfl)
    · exact .inr (by rw [q]; rfl)
/-- in that order one list alone -/
theorem v_only : ∀ {l r : List Vn}, l.Pairwise (fun a b => vLt a b = true) → r.Pairwise (fun a b => vLt a b = true) → (∀ x, x ∈ l ↔ x ∈ r) → l = r
  | [], [], _, _, _ => rfl
  | [], b :: r, _, _, h => absurd ((h b).2 (List.mem_cons_self ..)) (by simp)
  | a :: l, [], _, _, h => absurd ((h a).1 (List.mem_cons_self ..)) (by simp)
  | a :: l, b :: r, h1, h2, h => by
    obtain ⟨a1, a2⟩ := List.pairwise_cons.1 h1
    obtain ⟨b1, b2⟩ := List.pairwise_cons.1 h2
    have e : a = b := by
      rcases List.mem_cons.1 ((h a).1 (List.mem_cons_self ..)) with q | q
      · exact q
      · rcases List.mem_cons.1 ((h b).2 (List.mem_cons_self ..)) with p | p
        · exact p.symm
        · have x := v_asym (b1 a q)
          rw [a1 b p] at x
          cases x
    subst e
    rw [v_only a2 b2 fun x => ?_]
    constructor
    · intro hx
      rcases List.mem_cons.1 ((h x).1 (List.mem_cons_of_mem _ hx)) with q | q
      · subst q
        have := a1 x hx
        have y := v_asym this
        rw [this] at y
        cases y
      · exact q
    · intro hx
      rcases List.mem_cons.1 ((h x).2 (List.mem_cons_of_mem _ hx)) with q | q
      · subst q
        have := b1 x hx
        have y := v_asym this
        rw [this] at y
        cases y
      · exact q
end Go.Proofs.YtodidokeblblgaaGreatDoor.M
