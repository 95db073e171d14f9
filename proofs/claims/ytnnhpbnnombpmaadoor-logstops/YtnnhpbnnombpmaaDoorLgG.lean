/-
  What package log's Calls answers: the calls that are whole, in new blocks.
-/
import Derived.Test.YtnnhpbnnombpmaaDoorLgE
import Derived.Deep.AppendLies
namespace Go.Proofs.YtnnhpbnnombpmaaDoor
open Go.ChangeShapes Go.WideShapes Go.ChangeAt Go.RowKit Go.Lib
set_option linter.unusedVariables false

theorem infoCa : (Tryd.prog.info? 25).map (fun i => (i.zero, i.size, i.bytes)) = some (some (.agg #[.int .i64 0, .int .i64 0, .int .i64 0, .string ⟨#[]⟩, .int .i64 0, .int .i64 0, .slice none 0 0]), 7, 80) := by kernel_rfl
def ca7 (k : CaC) : List Value := [.int .i64 k.1.what, .int .i64 k.1.ses, .int .i64 k.1.seq, .string (byStr k.1.name), .int .i64 k.1.num, .int .i64 k.1.share, .slice k.2.1 k.1.bys.length k.2.2]
/-- calls as cells -/
def caCs (l : List CaC) : List Value := l.flatMap ca7
theorem caCs_app (a b : List CaC) : caCs (a ++ b) = caCs a ++ caCs b := by unfold caCs; rw [List.flatMap_append]
theorem caCs_one (k : CaC) : caCs [k] = ca7 k := by unfold caCs; simp
theorem caCs_len : ∀ l : List CaC, (caCs l).length = l.length * 7
  | [] => rfl
  | k :: l => by
    have := caCs_len l
    show (ca7 k ++ caCs l).length = _
    rw [List.length_append, this, List.length_cons]
    show 7 + _ = _
    omega
theorem caCs_at : ∀ (l : List CaC) (i j : Nat), i < l.length → j < 7 → (caCs l)[i * 7 + j]? = (ca7 (l.getD i ca0))[j]?
  | [], i, j, h, _ => by cases h
  | k :: l, 0, j, _, hj => by
    show (ca7 k ++ caCs l)[0 * 7 + j]? = _
    rw [List.getElem?_append_left (by show 0 * 7 + j < 7; omega), Nat.zero_mul, Nat.zero_add]
    rfl
  | k :: l, i + 1, j, h, hj => by
    show (ca7 k ++ caCs l)[(i + 1) * 7 + j]? = _
    rw [List.getElem?_append_right (by show 7 ≤ (i + 1) * 7 + j; omega)]
    have e : (i + 1) * 7 + j - (ca7 k).length = i * 7 + j := by show (i + 1) * 7 + j - 7 = _; omega
    rw [e, caCs_at l i j (by simpa using h) hj]
    rfl
/-- calls in a row of our own -/
theorem own_rdC {w : World} {base n : Nat} {a : Option Addr} {c : Nat} {l : List CaC} (hn : l.length = n) (hm : n ≤ maxLen) (hi : ∀ k ∈ l, CaIn w k.1 k.2.1 k.2.2) (h : w.ownsRow base 25 7 (.slice a n c) n (caCs l)) : RdC w a l := by
  subst hn
  refine ⟨hm, hi, fun hne => ?_⟩
  rcases h.2 with ⟨hv, h0⟩ | ⟨g, cap, cur, hv, hb, hg, h1, h2, h3, h4⟩
  · exact absurd (List.length_eq_zero_iff.1 h0) hne
  · cases hv
    refine ⟨g, 0, rfl, (Array.getElem?_eq_some_iff.1 hg).1, fun i hi' => ?_⟩
    have key : ∀ j, j < 7 → ∀ v, (ca7 (l.getD i ca0))[j]? = some v → w.cell? ⟨g, 0 + i * 7 + j, none⟩ = some v := fun j hj v hv => by
      rw [Nat.zero_add, h.cellAt (i * 7 + j) (by omega), ← hv]
      exact caCs_at l i j hi' hj
    exact ⟨key 0 (by omega) _ rfl, key 1 (by omega) _ rfl, key 2 (by omega) _ rfl, key 3 (by omega) _ rfl, key 4 (by omega) _ rfl, key 5 (by omega) _ rfl, key 6 (by omega) _ rfl⟩
theorem M.recs_more : ∀ l : List M.Ca, (∀ c ∈ l, M.CaOk c) → l.length ≤ (M.recs l).length
  | [], _ => Nat.le_refl _
  | c :: l, h => by
    have a := M.recs_more l fun x hx => h x (List.mem_cons_of_mem _ hx)
    have b := (h c (List.mem_cons_self ..)).rec_le.1
    rw [M.recs_cons, List.length_append, List.length_cons]
    omega
/-- calls that are laid one behind the other, in blocks that are new since a world -/
structure CW (W w : World) (a : Option Addr) (c : Nat) (l : List CaC) : Prop where
  own : w.ownsRow W.heap.size 25 7 (.slice a l.length c) l.length (caCs l)
  ci : ∀ k ∈ l, CaIn w k.1 k.2.1 k.2.2
  ap : ∀ k ∈ l, ∀ p, k.2.1 = some p → W.heap.size ≤ p.block ∧ p.block < w.heap.size ∧ ∀ q, a = some q → q.block ≠ p.block
theorem CaIn.keep {w w' : World} {c : M.Ca} {a : Option Addr} {cap : Nat} (h : CaIn w c a cap) (hk : ∀ p, a = some p → w'.heap[p.block]? = w.heap[p.block]?) (hz : w.heap.size ≤ w'.heap.size) : CaIn w' c a cap := ⟨h.nb, h.nl, rdB_keep h.rd (fun _ p hp => hk p hp) hz, h.le, h.cp, h.num, h.shr, h.nil⟩
theorem CW.below {W w w' : World} {a : Option Addr} {c : Nat} {l : List CaC} (h : CW W w a c l) (hb : Below w.heap.size w w') : CW W w' a c l :=
  ⟨own_stay h.own (fun p hp => hb.block _ (own_spot h.own p hp).2.1), fun k hk => (h.ci k hk).below hb, fun k hk p hp => ⟨(h.ap k hk p hp).1, Nat.lt_of_lt_of_le (h.ap k hk p hp).2.1 hb.size, (h.ap k hk p hp).2.2⟩⟩
/-- one more behind them -/
theorem CW.more {W w w' : World} {a : Option Addr} {c : Nat} {l : List CaC} (h : CW W w a c l) {k : CaC} (hk : CaIn w k.1 k.2.1 k.2.2) (hp : ∀ p, k.2.1 = some p → W.heap.size ≤ p.block ∧ p.block < w.heap.size ∧ ∀ q, a = some q → q.block ≠ p.block) {g cap : Nat} (ho : w'.ownsRow W.heap.size 25 7 (.slice (some ⟨g, 0, none⟩) (l.length + 1) cap) (l.length + 1) (caCs l ++ ca7 k)) (hgr : w.grownBy w' (Value.slice a l.length c).ownBlock) (hg : (Value.slice a l.length c).ownBlock = some g ∨ g = w.heap.size) : CW W w' (some ⟨g, 0, none⟩) cap (l ++ [k]) := by
  have ob : ∀ q, (Value.slice a l.length c).ownBlock = some q → ∃ p, a = some p ∧ p.block = q := fun q hq => by
    cases a with
    | none => cases hq
    | some p => exact ⟨p, rfl, by simpa [Value.ownBlock] using hq⟩
  have key : ∀ j : CaC, CaIn w j.1 j.2.1 j.2.2 → (∀ p, j.2.1 = some p → W.heap.size ≤ p.block ∧ p.block < w.heap.size ∧ ∀ q, a = some q → q.block ≠ p.block) → CaIn w' j.1 j.2.1 j.2.2 ∧ ∀ p, j.2.1 = some p → W.heap.size ≤ p.block ∧ p.block < w'.heap.size ∧ ∀ q, (some ⟨g, 0, none⟩ : Option Addr) = some q → q.block ≠ p.block := fun j hj hq => by
    refine ⟨hj.keep (fun p hp => hgr.block _ (hq p hp).2.1 (fun e => ?_)) hgr.size, fun p hp => ⟨(hq p hp).1, Nat.lt_of_lt_of_le (hq p hp).2.1 hgr.size, fun q e => ?_⟩⟩
    · obtain ⟨r, e1, e2⟩ := ob _ e.symm
      exact (hq p hp).2.2 r e1 e2
    · cases e
      show g ≠ p.block
      rcases hg with z | z
      · obtain ⟨r, e1, e2⟩ := ob _ z
        rw [← e2]
        exact (hq p hp).2.2 r e1
      · have := (hq p hp).2.1
        omega
  have el : (l ++ [k]).length = l.length + 1 := by simp
  refine ⟨?_, fun j hj => ?_, fun j hj => ?_⟩
  · rw [el, caCs_app, caCs_one]; exact ho
  · rcases List.mem_append.1 hj with z | z
    · exact (key j (h.ci j z) (h.ap j z)).1
    · rw [List.mem_singleton] at z; subst z; exact (key j hk hp).1
  · rcases List.mem_append.1 hj with z | z
    · exact (key j (h.ci j z) (h.ap j z)).2
    · rw [List.mem_singleton] at z; subst z; exact (key j hk hp).2

set_option maxHeartbeats 8000000 in
set_option maxRecDepth 10000 in
theorem lg_Calls {W : World} {f : Nat} {va : Option Addr} {vc : Nat} {L : M.Lg} (h : LA W f va vc L) :
    Calls Tryd.prog 9 #[.pointer (some ⟨f, 0, none⟩)] W fun e w' => ∃ a c l, e = .returned (.slice a L.calls.length c) ∧ l.map (·.1) = L.calls ∧ CW W w' a c l ∧ Below W.heap.size W w' := by
  have c0 := h.box.cell 0 _ rfl
  obtain ⟨rd, rn, rl, rc⟩ := h.rd
  have HL := hide h.ok.ok
  have LN : L.calls.length ≤ 100000 := Nat.le_trans (M.recs_more _ h.ok.ok) h.ok.wh
  have NO := hide (fun (a : Option Addr) (ca : Nat) (w : World) (hh : RdB w a L.tail) => lg_split_no a L.tail ca w hh h.ok.tl.short)
  have YE := hide (fun (a : Option Addr) (c : M.Ca) (r : List Nat) (ca : Nat) (w : World) hc h hl hca hn => lg_split a c r ca w hc h hl hca hn)
  have RE := hide (fun (a : Option Addr) (c : M.Ca) (ca : Nat) (w : World) hc h hl hca hn => lg_read a c ca w hc h hl hca hn)
  have e0 : L.bytes = M.recs (L.calls.drop 0) ++ L.tail := rfl
  rw [e0] at rd rl c0
  have R0 := hide rd
  have C0 : Hid ((M.recs (L.calls.drop 0) ++ L.tail).length ≤ vc ∧ vc ≤ 9223372036854775807 ∧ (va = none → vc = 0)) := ⟨rl, rc, rn⟩
  clear h rd rn rl rc e0
  obtain ⟨n0, hn0⟩ : ∃ x, x = (M.recs (L.calls.drop 0) ++ L.tail).length := ⟨_, rfl⟩
  rw [← hn0] at c0
  have E0 := hide hn0
  clear hn0
  obtain ⟨j0, hj0, hz0, hz1, hz2⟩ := info_parts infoCa
  have J0 := hide hj0
  clear hj0
  go_enter Tryd.func9, Tryd.ntmps9
  go_wp2
  go_loopw [2, 3, 4, 5, 6, 7] (fun _ v r _ _ _ wr => ∃ (j : Nat) (a : Option Addr) (c : Nat) (l : List CaC) (b : Option Addr) (cb : Nat), j ≤ L.calls.length ∧ v = .slice a j c ∧ r = .slice b (M.recs (L.calls.drop j) ++ L.tail).length cb ∧ l.length = j ∧ Hid (l.map (·.1) = L.calls.take j) ∧ Hid (CW W wr a c l) ∧ Hid (RdB W b (M.recs (L.calls.drop j) ++ L.tail)) ∧ Hid ((M.recs (L.calls.drop j) ++ L.tail).length ≤ cb ∧ cb ≤ 9223372036854775807 ∧ (b = none → cb = 0)) ∧ Hid (Below W.heap.size W wr)) (fun _ _ r _ _ _ _ => lenV r)
  case atStart => exact ⟨0, none, 0, [], va, vc, Nat.zero_le _, rfl, by rw [E0.out], rfl, rfl, ⟨World.ownsRow_nil _ _ _ _, (fun k hk => by cases hk), fun k hk => by cases hk⟩, R0, C0, Below.refl _ _⟩
  case round =>
    clear R0 C0 c0 E0
    obtain ⟨j, a, cc, l, b, cb, hj, rfl, rfl, hll, LM, CC, RR, CB, KK⟩ := hrel
    by_cases hlt : j < L.calls.length
    · have ok := HL.out L.calls[j] (List.getElem_mem hlt)
      have er : M.recs (L.calls.drop j) ++ L.tail = M.recL L.calls[j] ++ (M.recs (L.calls.drop (j + 1)) ++ L.tail) := by rw [M.recs_drop hlt, List.append_assoc]
      rw [er] at RR CB ⊢
      have SP := hide (YE.out b L.calls[j] _ cb wr ok (RR.out.below KK.out) CB.out.1 CB.out.2.1 CB.out.2.2)
      have sh : (M.recs (L.calls.drop (j + 1)) ++ L.tail).length < (M.recL L.calls[j] ++ (M.recs (L.calls.drop (j + 1)) ++ L.tail)).length := by
        have := ok.rec_le
        have e9 : (M.recL L.calls[j] ++ (M.recs (L.calls.drop (j + 1)) ++ L.tail)).length = (M.recL L.calls[j]).length + (M.recs (L.calls.drop (j + 1)) ++ L.tail).length := List.length_append
        omega
      have LM2 : Hid (∀ k : CaC, k.1 = L.calls[j] → (l ++ [k]).map (·.1) = L.calls.take (j + 1)) := fun k hk => by
        rw [List.map_append, LM.out, List.take_succ_eq_append_getElem hlt]
        show _ ++ [k.1] = _
        rw [hk]
      have OK := hide ok
      clear er YE NO CB ok LM
      generalize (M.recL L.calls[j] ++ (M.recs (L.calls.drop (j + 1)) ++ L.tail)).length = n1 at *
      obtain ⟨n2, hn2⟩ : ∃ x, x = (M.recs (L.calls.drop (j + 1)) ++ L.tail).length := ⟨_, rfl⟩
      rw [← hn2] at sh
      simp only [← hn2] at SP
      have E2 := hide hn2
      clear hn2
      go_upto_region 6 with (go_at_call 23; refine SP.out.mono ?_; rintro e w1 ⟨a1, c1, a2, c2, rfl, rr, q1, q2, q3, q4, q5, q6, b1⟩; have R1 := hide ((rr _ (RR.out.below KK.out)).1.below b1); have R2 := hide (rr _ RR.out).2; have C1 := hide (And.intro q1 (And.intro q2 q6)); have C2 := hide (And.intro q3 (And.intro q4 q5)); have K1 := hide (below_on KK.out b1); have CW1 := hide (CC.out.below b1); clear rr q1 q2 q3 q4 q5 q6 b1)
      clear SP RR KK CC
      have RE1 := hide (RE.out a1 L.calls[j] c1 w1 OK.out R1.out C1.out.1 C1.out.2.1 C1.out.2.2)
      clear RE R1 C1
      unfold caV at RE1
      have NX : Hid (∀ (w2 : World) (a3 : Option Addr) (c3 : Nat), CaIn w2 L.calls[j] a3 c3 → Below w1.heap.size w1 w2 → (∀ p, a3 = some p → w1.heap.size ≤ p.block ∧ p.block < w2.heap.size) → ∀ o : Obj, (w2.alloc o).ownsRow W.heap.size 25 7 (.slice a j cc) j (caCs l) ∧ W.heap.size ≤ (w2.alloc o).heap.size ∧ ∀ (g cap : Nat) (w3 : World), w3.ownsRow W.heap.size 25 7 (.slice (some ⟨g, 0, none⟩) (j + 1) cap) (j + 1) (caCs l ++ ca7 (L.calls[j], a3, c3)) → (w2.alloc o).grownBy w3 (Value.slice a j cc).ownBlock → ((Value.slice a j cc).ownBlock = some g ∨ g = w2.heap.size + 1) → CW W w3 (some ⟨g, 0, none⟩) cap (l ++ [(L.calls[j], a3, c3)]) ∧ Below W.heap.size W w3) := fun w2 a3 c3 ci b2 np o => by
        subst hll
        have bo : Below w2.heap.size w2 (w2.alloc o) := (Below.refl _ _).alloc (Nat.le_refl _) o
        have c2 := (CW1.out.below b2).below bo
        have k2 : Below W.heap.size W (w2.alloc o) := below_on (below_on K1.out b2) bo
        have zo : (w2.alloc o).heap.size = w2.heap.size + 1 := by simp
        refine ⟨c2.own, k2.size, fun g cap w3 ho hg ha => ⟨c2.more (ci.below bo) (fun p hp => ?_) ho hg (by rw [zo]; exact ha), k2.grown hg k2.size (fun q hq => (c2.own.lt q hq).1)⟩⟩
        have p1 : w1.heap.size ≤ p.block := (np p hp).1
        refine ⟨Nat.le_trans K1.out.size p1, by have := (np p hp).2; omega, fun q hq => ?_⟩
        have := (own_spot CW1.out.own q hq).2.1
        omega
      have JL : Hid (j + 1 ≤ 100000) := by unfold Hid; omega
      have HLL := hide hll
      clear CW1 OK HL hll LN
      generalize hck : L.calls[j] = ck at *
      have HCK := hide hck
      clear hck
      go_wp2_with (first
        | (go_at_call 24; refine RE1.out.mono ?_; rintro e w2 ⟨a3, c3, rfl, ci, b2, np⟩; obtain ⟨o3, z3, nx⟩ := NX.out w2 a3 c3 ci b2 np (.cells #[.int .i64 ck.what, .int .i64 ck.ses, .int .i64 ck.seq, .string (byStr ck.name), .int .i64 ck.num, .int .i64 ck.share, .slice a3 ck.bys.length c3] 25); have O3 := hide o3; have Z3 := hide z3; have N3 := hide nx; clear o3 z3 nx ci b2 np)
        | (at_builtin; refine wpList_append_lies _ rfl (.tmp 21) (.tmp 24) 22 rfl W.heap.size 25 j0 (.agg #[.int .i64 0, .int .i64 0, .int .i64 0, .string ⟨#[]⟩, .int .i64 0, .int .i64 0, .slice none 0 0]) 7 80 Tryd.underlying22 J0.out hz0 hz1 hz2 rfl (by omega) (.slice a j cc) j (caCs l) rfl O3.out ⟨w2.heap.size, 0, none⟩ 1 1 [.int .i64 ck.what, .int .i64 ck.ses, .int .i64 ck.seq, .string (byStr ck.name), .int .i64 ck.num, .int .i64 ck.share, .slice a3 ck.bys.length c3] rfl rfl (World.news_of_block (heap_alloc_new _ _)) (by simp [Value.oneCell']) (by omega) (by have := JL.out; unfold maxLen; omega) (by have := JL.out; omega) Z3.out (w2.heap.size + 1) (by simp) ?_; intro g cg w3 ho3 hg3 ha3 hl3; obtain ⟨cw3, k3⟩ := N3.out g cg w3 ho3 hg3 ha3; have CW3 := hide cw3; have K3 := hide k3; clear ho3 hg3 ha3 hl3 cw3 k3))
      go_roundw
      case rel => exact ⟨j + 1, some ⟨g, 0, none⟩, cg, l ++ [(ck, a3, c3)], a2, c2, hlt, rfl, by rw [← E2.out], by rw [List.length_append, HLL.out]; rfl, LM2.out _ rfl, CW3, R2, by unfold Hid; rw [← E2.out]; exact C2.out, K3⟩
      case measure => exact sh
    · have ej : j = L.calls.length := by omega
      have er : M.recs (L.calls.drop j) ++ L.tail = L.tail := by rw [ej, List.drop_length]; rfl
      rw [er] at RR CB ⊢
      have SP := hide (NO.out b cb wr (RR.out.below KK.out))
      have LF : Hid (l.map (·.1) = L.calls) := by have := LM.out; rw [ej, List.take_length] at this; exact this
      have EJ := hide ej
      have HLL := hide hll
      clear er YE NO RE RR CB ej LM hll HL
      generalize L.tail.length = n1 at *
      go_wp2_with (go_at_call 23; refine SP.out.mono ?_; rintro e w1 ⟨rfl, ew⟩; have ew2 := ew.symm; subst ew2)
      go_ret
      exact ⟨a, cc, l, by rw [← EJ.out]; rfl, LF.out, CC.out, KK.out⟩

end Go.Proofs.YtnnhpbnnombpmaaDoor
