/-
  A log as the document has it: its whole calls, what stands behind them, how much is safe, what may stop it; no condition beyond those named.
-/
import Derived.Test.YtnnhpbnnombpmaaDoorLgMa
namespace Go.Proofs.YtnnhpbnnombpmaaDoor.M
set_option linter.unusedVariables false

structure Lg where
  calls : List Ca
  tail : List Nat
  safe : Nat
  ahead : Int
  stop : Bool
def Lg.bytes (L : Lg) : List Nat := recs L.calls ++ L.tail
def Lg.whole (L : Lg) : Nat := (recs L.calls).length
structure LgOk (L : Lg) : Prop where
  ok : ∀ c ∈ L.calls, CaOk c
  tl : TailOk L.tail
  wh : L.whole ≤ 100000
  sf : L.safe ≤ L.bytes.length
  ah : I64 L.ahead
theorem LgOk.len {L : Lg} (h : LgOk L) : L.whole ≤ L.bytes.length ∧ L.bytes.length ≤ 106170 := by
  have a := h.tl.len
  have b := h.wh
  unfold Lg.bytes
  unfold Lg.whole at b ⊢
  rw [List.length_append]
  omega
theorem LgOk.byte {L : Lg} (h : LgOk L) : ∀ x ∈ L.bytes, x < 256 := fun x hx => by
  unfold Lg.bytes at hx
  rcases List.mem_append.1 hx with q | q
  · exact recs_byte _ h.ok x q
  · exact h.tl.byte x q
theorem dec_in {a : Int} (h : I64 a) : I64 (if 0 < a then a - 1 else a) := by
  unfold I64 at *
  by_cases q : 0 < a
  · rw [if_pos q]; omega
  · rw [if_neg q]; exact h
def lg0 : Lg := ⟨[], [], 0, -1, false⟩
theorem lg0_ok : LgOk lg0 := ⟨(fun c hc => by cases hc), tail_nil, by decide, by decide, by unfold I64 lg0; decide⟩
/-! ### a step -/
def stpF (L : Lg) : Bool := L.stop || decide (L.ahead = 0)
def stpL (L : Lg) : Lg := ⟨L.calls, L.tail, L.safe, if stpF L = true then L.ahead else if 0 < L.ahead then L.ahead - 1 else L.ahead, stpF L⟩
theorem stp_ok {L : Lg} (h : LgOk L) : LgOk (stpL L) := ⟨h.ok, h.tl, h.wh, h.sf, by
  unfold stpL
  by_cases q : stpF L = true
  · simp only [if_pos q]; exact h.ah
  · simp only [if_neg q]; exact dec_in h.ah⟩
/-! ### cut off -/
def cutG (L : Lg) (n : Nat) : Lg := ⟨L.calls.take (fitN L.calls n), (L.bytes.take n).drop (recs (L.calls.take (fitN L.calls n))).length, min L.safe n, L.ahead, L.stop⟩
theorem cutG_tail {L : Lg} (h : LgOk L) (n : Nat) : TailOk (cutG L n).tail ∧ (cutG L n).bytes = L.bytes.take n := by
  obtain ⟨a, t', b1, b2, b3⟩ := cut_at L.calls L.tail n h.ok h.tl
  have e : (cutG L n).tail = t' := by
    show ((recs L.calls ++ L.tail).take n).drop _ = _
    rw [b2, List.drop_left]
  rw [e]
  refine ⟨b1, ?_⟩
  show recs (L.calls.take (fitN L.calls n)) ++ (cutG L n).tail = (recs L.calls ++ L.tail).take n
  rw [e, b2]
theorem cutG_ok {L : Lg} (h : LgOk L) (n : Nat) (hn : n ≤ L.bytes.length) : LgOk (cutG L n) := by
  obtain ⟨t1, t2⟩ := cutG_tail h n
  refine ⟨fun c hc => h.ok c (List.mem_of_mem_take hc), t1, ?_, ?_, h.ah⟩
  · have w := h.wh
    have e := recs_split L.calls (fitN L.calls n)
    have e2 := congrArg List.length e
    rw [List.length_append] at e2
    show (recs (L.calls.take (fitN L.calls n))).length ≤ _
    unfold Lg.whole at w
    omega
  · rw [t2, List.length_take]
    show min L.safe n ≤ _
    have := h.sf
    omega
theorem cutG_whole {L : Lg} (h : LgOk L) : cutG L L.whole = ⟨L.calls, [], min L.safe L.whole, L.ahead, L.stop⟩ := by
  have f : fitN L.calls L.whole = L.calls.length := fitN_all _ _ (Nat.le_refl _)
  unfold cutG
  rw [f, List.take_length]
  have e : (L.bytes.take L.whole).drop (recs L.calls).length = [] := List.drop_eq_nil_of_le (by
    rw [List.length_take]
    show min (recs L.calls).length _ ≤ _
    omega)
  rw [e]
theorem cutG_more {L : Lg} (h : LgOk L) {n : Nat} (hn : L.whole ≤ n) : (cutG L n).whole = L.whole := by
  show (recs (L.calls.take (fitN L.calls n))).length = _
  rw [fitN_all _ _ hn, List.take_length]
  rfl
/-! ### a call is appended -/
def apF (L : Lg) (c : Ca) : Int := if rngF c = false then 1 else if 100 < c.name.length ∨ 6000 < c.bys.length ∨ 100000 < L.whole + (recL c).length then 4 else if stpF L = true then 9 else 0
def apL (L : Lg) (c : Ca) : Lg := if apF L c = 1 ∨ apF L c = 4 ∨ L.stop = true then L else if L.ahead = 0 then ⟨L.calls, (recL c).take ((recL c).length / 2), min L.safe L.whole, L.ahead, true⟩ else ⟨L.calls ++ [c], [], min L.safe L.whole, if 0 < L.ahead then L.ahead - 1 else L.ahead, L.stop⟩
def crN (L : Lg) (keep : Int) : Nat := L.safe + min keep.toNat (L.bytes.length - L.safe)
def crL (L : Lg) (keep : Int) : Lg := ⟨(cutG L (crN L keep)).calls, (cutG L (crN L keep)).tail, (cutG L (crN L keep)).bytes.length, -1, false⟩
def syF (L : Lg) : Int := if stpF L = true then 9 else 0
def syL (L : Lg) : Lg := if stpF L = true then stpL L else ⟨L.calls, L.tail, L.bytes.length, (stpL L).ahead, false⟩
theorem crN_le {L : Lg} (h : LgOk L) (keep : Int) : L.safe ≤ crN L keep ∧ crN L keep ≤ L.bytes.length := by
  have := h.sf
  unfold crN
  omega
theorem cr_ok {L : Lg} (h : LgOk L) (keep : Int) : LgOk (crL L keep) := by
  have a := cutG_ok h (crN L keep) (crN_le h keep).2
  exact ⟨a.ok, a.tl, a.wh, Nat.le_refl _, ⟨(by decide : (-9223372036854775808 : Int) ≤ -1), (by decide : (-1 : Int) ≤ 9223372036854775807)⟩⟩
theorem cr_bytes {L : Lg} (h : LgOk L) (keep : Int) : (crL L keep).bytes = L.bytes.take (crN L keep) := (cutG_tail h _).2
theorem cr_safe {L : Lg} (h : LgOk L) (keep : Int) : (crL L keep).safe = crN L keep := by
  show (cutG L (crN L keep)).bytes.length = _
  rw [(cutG_tail h _).2, List.length_take]
  have := crN_le h keep
  omega
theorem sy_ok {L : Lg} (h : LgOk L) : LgOk (syL L) := by
  unfold syL
  split
  · exact stp_ok h
  · exact ⟨h.ok, h.tl, h.wh, Nat.le_refl _, (stp_ok h).ah⟩
theorem ca_ok {L : Lg} {c : Ca} (h1 : apF L c ≠ 1) (h4 : apF L c ≠ 4) (nb : ∀ x ∈ c.name, x < 256) (bb : ∀ x ∈ c.bys, x < 256) : CaOk c ∧ L.whole + (recL c).length ≤ 100000 ∧ apF L c = if stpF L = true then 9 else 0 := by
  unfold apF at *
  by_cases q : rngF c = false
  · rw [if_pos q] at h1; exact absurd rfl h1
  · rw [if_neg q] at h1 h4 ⊢
    by_cases z : 100 < c.name.length ∨ 6000 < c.bys.length ∨ 100000 < L.whole + (recL c).length
    · rw [if_pos z] at h4; exact absurd rfl h4
    · rw [if_neg z]
      exact ⟨⟨by simpa using q, by omega, by omega, nb, bb⟩, by omega, rfl⟩
theorem ap_ok {L : Lg} (h : LgOk L) {c : Ca} (nb : ∀ x ∈ c.name, x < 256) (bb : ∀ x ∈ c.bys, x < 256) : LgOk (apL L c) := by
  unfold apL
  by_cases q : apF L c = 1 ∨ apF L c = 4 ∨ L.stop = true
  · rw [if_pos q]; exact h
  · rw [if_neg q]
    obtain ⟨k1, k2, k3⟩ := ca_ok (L := L) (c := c) (fun e => q (.inl e)) (fun e => q (.inr (.inl e))) nb bb
    have rl := k1.rec_le
    have ah := h.ah
    by_cases z : L.ahead = 0
    · rw [if_pos z]
      refine ⟨h.ok, ⟨c, _, k1, by omega, rfl⟩, h.wh, ?_, h.ah⟩
      show min L.safe L.whole ≤ (recs L.calls ++ _).length
      rw [List.length_append]
      unfold Lg.whole
      omega
    · rw [if_neg z]
      have we : (recs (L.calls ++ [c])).length = L.whole + (recL c).length := by rw [recs_app, recs_one, List.length_append]; rfl
      refine ⟨fun d hd => ?_, tail_nil, ?_, ?_, ?_⟩
      · rcases List.mem_append.1 hd with y | y
        · exact h.ok d y
        · rw [List.mem_singleton] at y; subst y; exact k1
      · show (recs (L.calls ++ [c])).length ≤ _
        rw [we]; exact k2
      · show min L.safe L.whole ≤ (recs (L.calls ++ [c]) ++ []).length
        rw [List.append_nil, we]
        omega
      · exact dec_in h.ah

end Go.Proofs.YtnnhpbnnombpmaaDoor.M
