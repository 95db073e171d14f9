/-
  Calls as bytes, one behind the other, and what is left where they are cut off; no condition beyond those named.
-/
import Derived.Test.YtnnhpbnnombpmaaDoorMathHa
namespace Go.Proofs.YtnnhpbnnombpmaaDoor.M
set_option linter.unusedVariables false

/-! ### a call as bytes -/
def sixL (c : Ca) : List Int := [c.what, c.ses, c.seq, c.num, c.share, (c.name.length : Int)]
def bodL (c : Ca) : List Nat := bysL (sixL c) ++ c.name ++ c.bys
def recL (c : Ca) : List Nat := numL ((bodL c).length : Int) ++ bodL c
def recs (l : List Ca) : List Nat := l.flatMap recL
theorem recs_app (a b : List Ca) : recs (a ++ b) = recs a ++ recs b := by unfold recs; rw [List.flatMap_append]
theorem recs_cons (c : Ca) (l : List Ca) : recs (c :: l) = recL c ++ recs l := rfl
theorem recs_one (c : Ca) : recs [c] = recL c := by rw [recs_cons]; show recL c ++ [] = _; rw [List.append_nil]
def rngF (c : Ca) : Bool := decide (1 ≤ c.what) && decide (c.what ≤ 4) && timeB c.ses && timeB c.seq && timeB c.num && timeB c.share
/-- a call that may be kept -/
structure CaOk (c : Ca) : Prop where
  rng : rngF c = true
  nl : c.name.length ≤ 100
  bl : c.bys.length ≤ 6000
  nb : ∀ x ∈ c.name, x < 256
  bb : ∀ x ∈ c.bys, x < 256
theorem time_in {n : Int} (h : timeB n = true) : 0 ≤ n ∧ n ≤ 1000000 := by
  unfold timeB at h
  rw [Bool.and_eq_true, decide_eq_true_iff, decide_eq_true_iff] at h
  exact h
theorem rng_in {c : Ca} (h : rngF c = true) : (1 ≤ c.what ∧ c.what ≤ 4) ∧ (0 ≤ c.ses ∧ c.ses ≤ 1000000) ∧ (0 ≤ c.seq ∧ c.seq ≤ 1000000) ∧ (0 ≤ c.num ∧ c.num ≤ 1000000) ∧ (0 ≤ c.share ∧ c.share ≤ 1000000) := by
  unfold rngF at h
  simp only [Bool.and_eq_true, decide_eq_true_iff] at h
  exact ⟨h.1.1.1.1, time_in h.1.1.1.2, time_in h.1.1.2, time_in h.1.2, time_in h.2⟩
theorem CaOk.six {c : Ca} (h : CaOk c) : ∀ x ∈ sixL c, 0 ≤ x ∧ x ≤ 1000000 := by
  have r := rng_in h.rng
  have n := h.nl
  intro x hx
  unfold sixL at hx
  simp only [List.mem_cons, List.not_mem_nil, or_false] at hx
  rcases hx with e | e | e | e | e | e <;> omega
theorem CaOk.i64 {c : Ca} (h : CaOk c) : ∀ x ∈ sixL c, I64 x := fun x hx => by
  have := h.six x hx
  unfold I64
  omega
theorem CaOk.body_le {c : Ca} (h : CaOk c) : (bodL c).length ≤ 6160 := by
  have a := bys_len (sixL c) h.i64
  have n := h.nl
  have b := h.bl
  have e : (sixL c).length = 6 := rfl
  unfold bodL
  rw [List.length_append, List.length_append]
  omega
theorem CaOk.num_in {c : Ca} (h : CaOk c) : -9223372036854775808 ≤ ((bodL c).length : Int) ∧ ((bodL c).length : Int) ≤ 9223372036854775807 := by
  have := h.body_le
  omega
theorem CaOk.rec_le {c : Ca} (h : CaOk c) : 1 ≤ (recL c).length ∧ (recL c).length ≤ 6170 := by
  have a := num_len h.num_in.1 h.num_in.2
  have b := h.body_le
  unfold recL
  rw [List.length_append]
  omega
theorem CaOk.body_byte {c : Ca} (h : CaOk c) : ∀ x ∈ bodL c, x < 256 := fun x hx => by
  unfold bodL at hx
  rcases List.mem_append.1 hx with q | q
  · rcases List.mem_append.1 q with q | q
    · exact bys_byte _ x q
    · exact h.nb x q
  · exact h.bb x q
theorem CaOk.rec_byte {c : Ca} (h : CaOk c) : ∀ x ∈ recL c, x < 256 := fun x hx => by
  unfold recL at hx
  rcases List.mem_append.1 hx with q | q
  · exact sev_byte _ x q
  · exact h.body_byte x q
theorem recs_byte : ∀ l : List Ca, (∀ c ∈ l, CaOk c) → ∀ x ∈ recs l, x < 256
  | [], _, x, hx => by cases hx
  | c :: l, h, x, hx => by
    rw [recs_cons] at hx
    rcases List.mem_append.1 hx with q | q
    · exact (h c (List.mem_cons_self ..)).rec_byte x q
    · exact recs_byte l (fun d hd => h d (List.mem_cons_of_mem _ hd)) x q

/-! ### what bytes begin with -/
/-- a number is read, and there are not so many bytes behind it -/
def Short (b : List Nat) : Prop := (getL b).2.2 ≠ 0 ∨ (b.length : Int) - ((getL b).2.1 : Int) < (getL b).1
theorem get_rec {c : Ca} (h : CaOk c) (r : List Nat) : getL (recL c ++ r) = (((bodL c).length : Int), (numL ((bodL c).length : Int)).length, 0) := by
  unfold recL
  rw [List.append_assoc]
  exact get_num h.num_in.1 h.num_in.2 _
theorem rec_drop {c : Ca} (r : List Nat) : (recL c ++ r).drop (numL ((bodL c).length : Int)).length = bodL c ++ r := by
  unfold recL
  rw [List.append_assoc, List.drop_left]
theorem short_cut {c : Ca} (h : CaOk c) {k : Nat} (hk : k < (recL c).length) : Short ((recL c).take k) := by
  have nl := num_len h.num_in.1 h.num_in.2
  have rl : (recL c).length = (numL ((bodL c).length : Int)).length + (bodL c).length := by unfold recL; rw [List.length_append]
  unfold Short
  by_cases q : k < (numL ((bodL c).length : Int)).length
  · left
    have e : (recL c).take k = (numL ((bodL c).length : Int)).take k := by
      unfold recL
      rw [List.take_append_of_le_length (by omega)]
    rw [e, get_cut h.num_in.1 h.num_in.2 q]
    decide
  · right
    have e : (recL c).take k = numL ((bodL c).length : Int) ++ (bodL c).take (k - (numL ((bodL c).length : Int)).length) := by
      unfold recL
      rw [List.take_append, List.take_of_length_le (by omega)]
    have el : ((recL c).take k).length = k := by rw [List.length_take]; omega
    rw [el]
    have g : getL ((recL c).take k) = (((bodL c).length : Int), (numL ((bodL c).length : Int)).length, 0) := by rw [e, get_num h.num_in.1 h.num_in.2]
    rw [g]
    show (k : Int) - ((numL ((bodL c).length : Int)).length : Int) < ((bodL c).length : Int)
    omega
theorem short_nil : Short [] := .inl (by decide)
/-- what is left of a call -/
def TailOk (b : List Nat) : Prop := ∃ c k, CaOk c ∧ k < (recL c).length ∧ b = (recL c).take k
theorem TailOk.short {b : List Nat} (h : TailOk b) : Short b := by
  obtain ⟨c, k, a, hk, rfl⟩ := h
  exact short_cut a hk
theorem TailOk.byte {b : List Nat} (h : TailOk b) : ∀ x ∈ b, x < 256 := by
  obtain ⟨c, k, a, hk, rfl⟩ := h
  intro x hx
  exact a.rec_byte x (List.mem_of_mem_take hx)
theorem TailOk.len {b : List Nat} (h : TailOk b) : b.length ≤ 6170 := by
  obtain ⟨c, k, a, hk, rfl⟩ := h
  have := a.rec_le
  rw [List.length_take]
  omega
theorem TailOk.cut {b : List Nat} (h : TailOk b) (n : Nat) : TailOk (b.take n) := by
  obtain ⟨c, k, a, hk, rfl⟩ := h
  exact ⟨c, min n k, a, by omega, by rw [List.take_take]⟩
def caR : Ca := ⟨1, 0, 0, [], 0, 0, []⟩
theorem caR_ok : CaOk caR := ⟨by decide, by decide, by decide, (fun x hx => by cases hx), (fun x hx => by cases hx)⟩
theorem tail_nil : TailOk [] := ⟨caR, 0, caR_ok, caR_ok.rec_le.1, rfl⟩
/-- how many calls so many bytes have whole -/
def fitN : List Ca → Nat → Nat
  | [], _ => 0
  | c :: l, n => if (recL c).length ≤ n then fitN l (n - (recL c).length) + 1 else 0
theorem fitN_le : ∀ (l : List Ca) (n : Nat), fitN l n ≤ l.length
  | [], _ => Nat.le_refl _
  | c :: l, n => by
    have := fitN_le l (n - (recL c).length)
    unfold fitN
    split
    · rw [List.length_cons]; omega
    · exact Nat.zero_le _
theorem fitN_all : ∀ (l : List Ca) (n : Nat), (recs l).length ≤ n → fitN l n = l.length
  | [], _, _ => rfl
  | c :: l, n, h => by
    rw [recs_cons, List.length_append] at h
    unfold fitN
    rw [if_pos (by omega), fitN_all l _ (by omega), List.length_cons]
/-- cut off anywhere, whole calls stand there, and what is left of one -/
theorem cut_at : ∀ (l : List Ca) (t : List Nat) (n : Nat), (∀ c ∈ l, CaOk c) → TailOk t → (recs (l.take (fitN l n))).length ≤ n ∧ ∃ t', TailOk t' ∧ (recs l ++ t).take n = recs (l.take (fitN l n)) ++ t' ∧ ((recs l).length ≤ n → t' = t.take (n - (recs l).length))
  | [], t, n, _, ht => by
    refine ⟨Nat.zero_le _, t.take n, ht.cut n, ?_, fun _ => ?_⟩
    · show t.take n = [] ++ _
      rw [List.nil_append]
    · show _ = t.take (n - 0)
      rw [Nat.sub_zero]
  | c :: l, t, n, h, ht => by
    by_cases q : (recL c).length ≤ n
    · obtain ⟨a, t', b1, b2, b3⟩ := cut_at l t (n - (recL c).length) (fun d hd => h d (List.mem_cons_of_mem _ hd)) ht
      have e : fitN (c :: l) n = fitN l (n - (recL c).length) + 1 := by show (if _ then _ else _) = _; rw [if_pos q]
      rw [e, List.take_succ_cons, recs_cons, recs_cons]
      refine ⟨by rw [List.length_append]; omega, t', b1, ?_, fun z => ?_⟩
      · rw [List.append_assoc, List.take_append, List.take_of_length_le q, b2, List.append_assoc]
      · rw [List.length_append] at z ⊢
        rw [b3 (by omega)]
        congr 1
        omega
    · have e : fitN (c :: l) n = 0 := by show (if _ then _ else _) = _; rw [if_neg q]
      rw [e]
      refine ⟨Nat.zero_le _, (recL c).take n, ⟨c, n, h c (List.mem_cons_self ..), by omega, rfl⟩, ?_, fun z => ?_⟩
      · show _ = [] ++ _
        rw [recs_cons, List.append_assoc, List.take_append_of_le_length (by omega), List.nil_append]
      · rw [recs_cons, List.length_append] at z
        omega
theorem recs_drop {l : List Ca} {k : Nat} (hk : k < l.length) : recs (l.drop k) = recL l[k] ++ recs (l.drop (k + 1)) := by
  rw [List.drop_eq_getElem_cons hk, recs_cons]
theorem recs_split (l : List Ca) (k : Nat) : recs l = recs (l.take k) ++ recs (l.drop k) := by
  rw [← recs_app, List.take_append_drop]

end Go.Proofs.YtnnhpbnnombpmaaDoor.M
