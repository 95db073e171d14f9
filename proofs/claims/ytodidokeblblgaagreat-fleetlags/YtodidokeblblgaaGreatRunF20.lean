/-
  Several texts as one: LgA, LgB.
-/
import Derived.Test.YtodidokeblblgaaGreatRunF15
import Derived.Test.YtodidokeblblgaaGreatRunF8
import Derived.Test.YtodidokeblblgaaGreatRunF9
import Derived.Test.YtodidokeblblgaaGreatRunF1
import Derived.Test.YtodidokeblblgaaGreatRunF2
import Derived.Deep.QuietTactic
import Derived.Deep.Cut
import Derived.Deep.CutRange
namespace Go.Proofs.YtodidokeblblgaaGreat
open Go.ChangeShapes Go.WideShapes Go.ChangeAt Go.RowKit Go.Lib
set_option linter.unusedVariables false
def lgL (va : Option Addr) (vc : Nat) (L : M.Lg) : List Value := [.slice va L.bytes.length vc, .int .i64 (L.whole : Int), .int .i64 (L.safe : Int), .int .i64 L.ahead, .bool L.stop]
/-- a log where it lies -/
structure LA (W : World) (f : Nat) (va : Option Addr) (vc : Nat) (L : M.Lg) : Prop where
  ok : M.LgOk L
  box : Bx W f (lgL va vc L)
  own : W.ownsRow 0 5 1 (.slice va L.bytes.length vc) L.bytes.length (byCells L.bytes)
  ne : ∀ p, va = some p → p.block ≠ f
/-- its blocks -/
def LB (f : Nat) (va : Option Addr) (q : Nat) : Prop := q = f ∨ ∃ p, va = some p ∧ p.block = q
theorem own_spot {W : World} {B n : Nat} {e : TypeId} {size : Nat} {a : Option Addr} {c : Nat} {l : List Value} (h : W.ownsRow B e size (.slice a n c) n l) : ∀ p, a = some p → p = ⟨p.block, 0, none⟩ ∧ p.block < W.heap.size ∧ (Value.slice a n c).ownBlock = some p.block := by
  intro p hp
  subst hp
  rcases h.2 with ⟨hv, _⟩ | ⟨g, cap, cur, hv, hb, hg, _⟩
  · cases hv
  · cases hv
    exact ⟨rfl, (Array.getElem?_eq_some_iff.1 hg).1, rfl⟩
theorem LA.lt {W : World} {f : Nat} {va : Option Addr} {vc : Nat} {L : M.Lg} (h : LA W f va vc L) {q : Nat} (hq : LB f va q) : q < W.heap.size := by
  rcases hq with e | ⟨p, e1, e2⟩
  · subst e; exact h.box.lt
  · rw [← e2]; exact (own_spot h.own p e1).2.1
theorem LA.up {W W' : World} {f : Nat} {va : Option Addr} {vc : Nat} {L : M.Lg} (h : LA W f va vc L) (hk : ∀ q, LB f va q → W'.heap[q]? = W.heap[q]?) : LA W' f va vc L :=
  ⟨h.ok, h.box.keep (hk f (.inl rfl)), by
    refine ⟨h.own.1, ?_⟩
    rcases h.own.2 with z | ⟨g, cap, cur, hv, hb, hg, r⟩
    · exact .inl z
    · refine .inr ⟨g, cap, cur, hv, hb, ?_, r⟩
      cases hv
      rw [hk g (.inr ⟨_, rfl, rfl⟩)]
      exact hg, h.ne⟩
theorem LA.below {W W' : World} {f : Nat} {va : Option Addr} {vc : Nat} {L : M.Lg} (h : LA W f va vc L) (hb : Below W.heap.size W W') : LA W' f va vc L := h.up (fun q hq => hb.block q (h.lt hq))
theorem LA.rd {W : World} {f : Nat} {va : Option Addr} {vc : Nat} {L : M.Lg} (h : LA W f va vc L) : RdB W va L.bytes ∧ (va = none → vc = 0) ∧ L.bytes.length ≤ vc ∧ vc ≤ 9223372036854775807 := by
  obtain ⟨a, cap, e, r⟩ := own_rdB1 rfl (by have := h.ok.len; unfold maxLen; omega) h.ok.byte h.own
  cases e
  exact r
/-- what a method leaves of it -/
def LeftL (W : World) (f : Nat) (va : Option Addr) (L' : M.Lg) (W' : World) : Prop := ∃ va' vc', LA W' f va' vc' L' ∧ StayBut (LB f va) W W' ∧ ∀ q, LB f va' q → LB f va q ∨ W.heap.size ≤ q

set_option maxHeartbeats 4000000 in
theorem lg_copyOf (a : Option Addr) (bs : List Nat) (c : Nat) (w : World) (h : RdB w a bs) (hc : a = none → c = 0) (hl : bs.length ≤ 140737488351232) :
    Calls Tryz.prog 45 #[.slice a bs.length c] w fun e w' => ∃ va vc, e = .returned (.slice va bs.length vc) ∧ w'.ownsRow w.heap.size 5 1 (.slice va bs.length vc) bs.length (byCells bs) ∧ Below w.heap.size w w' := by
  have O0 : Hid (w.ownsRow w.heap.size 5 1 (.slice none 0 0) 0 (byCells [])) := World.ownsRow_nil _ _ _ _
  have HB := hide h
  have HC := hide hc
  clear h hc
  go_enter Tryz.func45, Tryz.ntmps45
  go_wp2_with (at_builtin; refine wpList_append_by rfl (.const (.slice none 0 0)) (.tmp 3) rfl w.heap.size (.slice none 0 0) 0 [] rfl O0.out a bs bs.length c rfl rfl HB.out HC.out (by omega) (Nat.le_refl _) ?_; intro va vc w1 ho1 hb1 hg1; rw [Nat.zero_add, List.nil_append] at ho1; have O1 := hide ho1; have K1 := hide hb1; clear ho1 hb1 hg1)
  go_ret
  exact ⟨va, vc, rfl, by simpa using O1.out, K1.out⟩

set_option maxHeartbeats 4000000 in
theorem lg_split_no (a : Option Addr) (bs : List Nat) (ca : Nat) (w : World) (h : RdB w a bs) (hs : M.Short bs) :
    Calls Tryz.prog 28 #[.slice a bs.length ca] w fun e w' => e = .returned (.tuple #[.slice none 0 0, .slice none 0 0, .bool false]) ∧ w' = w := by
  have G := hide (cdget_same a bs ca w h)
  have kl := M.get_le bs
  have hm : bs.length ≤ 9223372036854775807 := h.1
  unfold M.Short at hs
  clear h
  generalize (M.getL bs).1 = n at *
  generalize (M.getL bs).2.1 = k at *
  generalize (M.getL bs).2.2 = er at *
  have wr : IntKind.i64.wrap ((bs.length : Int) - (k : Int)) = (bs.length : Int) - (k : Int) := i64_in (by omega) (by omega)
  by_cases q : er = 0
  · have lt : (bs.length : Int) - (k : Int) < n := by
      rcases hs with z | z
      · exact absurd q z
      · exact z
    have d1 : decide ((bs.length : Int) - (k : Int) < n) = true := decide_eq_true lt
    rw [err_nil q] at G
    clear hs q lt
    go_enter Tryz.func28, Tryz.ntmps28
    go_wp2_with (go_at_call 44; refine G.out.mono ?_; rintro e w1 ⟨rfl, ew⟩; have ew2 := ew.symm; subst ew2)
    go_ret3
    exact ⟨rfl, rfl⟩
  · rw [err_some q] at G
    clear hs q
    go_enter Tryz.func28, Tryz.ntmps28
    go_wp2_with (go_at_call 44; refine G.out.mono ?_; rintro e w1 ⟨rfl, ew⟩; have ew2 := ew.symm; subst ew2)
    go_ret3
    exact ⟨rfl, rfl⟩

set_option maxHeartbeats 4000000 in
theorem lg_split (a : Option Addr) (c : M.Ca) (r : List Nat) (ca : Nat) (w : World) (hc : M.CaOk c) (h : RdB w a (M.recL c ++ r)) (hl : (M.recL c ++ r).length ≤ ca) (hca : ca ≤ 9223372036854775807) (hn : a = none → ca = 0) :
    Calls Tryz.prog 28 #[.slice a (M.recL c ++ r).length ca] w fun e w' => ∃ a1 c1 a2 c2, e = .returned (.tuple #[.slice a1 (M.bodL c).length c1, .slice a2 r.length c2, .bool true]) ∧ (∀ V, RdB V a (M.recL c ++ r) → RdB V a1 (M.bodL c) ∧ RdB V a2 r) ∧ (M.bodL c).length ≤ c1 ∧ c1 ≤ 9223372036854775807 ∧ r.length ≤ c2 ∧ c2 ≤ 9223372036854775807 ∧ (a2 = none → c2 = 0) ∧ (a1 = none → c1 = 0) ∧ Below w.heap.size w w' := by
  have G := hide (cdget_same a (M.recL c ++ r) ca w h)
  rw [M.get_rec hc, err_nil rfl] at G
  have rl : (M.recL c ++ r).length = (M.numL ((M.bodL c).length : Int)).length + (M.bodL c).length + r.length := by unfold M.recL; rw [List.length_append, List.length_append]
  have kl := (M.num_len hc.num_in.1 hc.num_in.2).2
  have RA : ∀ V, RdB V a (M.recL c ++ r) → RdB V (if ca = (M.numL ((M.bodL c).length : Int)).length then a else Option.map (fun x => x.add (M.numL ((M.bodL c).length : Int)).length) a) (M.bodL c ++ r) := fun V hV => by
    have := rdB_slice (k := (M.numL ((M.bodL c).length : Int)).length) hV hl
    rw [M.rec_drop] at this
    exact this
  have hm : (M.recL c ++ r).length ≤ 9223372036854775807 := h.1
  clear h
  generalize (M.recL c ++ r).length = n at *
  generalize (M.numL ((M.bodL c).length : Int)).length = k at *
  have wr : IntKind.i64.wrap ((n : Int) - (k : Int)) = (n : Int) - (k : Int) := i64_in (by omega) (by omega)
  have d1 : decide ((n : Int) - (k : Int) < ((M.bodL c).length : Int)) = false := decide_eq_false (by omega)
  have z1 : (k : Int) ≤ (n : Int) := by omega
  have z2 : (n : Int) ≤ (ca : Int) := by omega
  have z3 : k ≤ n := by omega
  have z4 : n ≤ ca := by omega
  obtain ⟨a1, ha1⟩ : ∃ x, x = (if ca = k then a else Option.map (fun x => x.add k) a) := ⟨_, rfl⟩
  have N1 : Hid (a1 = none → ca - k = 0) := fun z => by
    rw [ha1] at z
    split at z
    · omega
    · cases a with
      | none => have := hn rfl; omega
      | some p => cases z
  rw [← ha1] at RA
  have RB := hide RA
  have HA := hide ha1.symm
  have RL := hide rl
  have HM := hide (show n ≤ ca ∧ ca ≤ 9223372036854775807 from ⟨z4, hca⟩)
  clear RA ha1 rl hn hl kl hm hca
  obtain ⟨m, hm⟩ : ∃ x, x = (M.bodL c).length := ⟨_, rfl⟩
  rw [← hm] at G d1
  have EM := hide hm
  clear hm hc
  go_enter Tryz.func28, Tryz.ntmps28
  go_upto_region 5 with (go_at_call 44; refine G.out.mono ?_; rintro e w1 ⟨rfl, ew⟩; have ew2 := ew.symm; subst ew2)
  clear G d1
  rw [HA.out]
  have X : n - k = m + r.length ∧ n - k ≤ ca - k ∧ ca - k ≤ 9223372036854775807 := by
    have := RL.out
    have := HM.out
    have := EM.out
    omega
  clear HA wr z1 z2 z3 z4
  generalize n - k = n1 at *
  generalize ca - k = c1 at *
  obtain ⟨x1, x2, x3⟩ := X
  have y1 : (m : Int) ≤ (n1 : Int) := by omega
  have y2 : (m : Int) ≤ (c1 : Int) := by omega
  have y3 : m ≤ n1 := by omega
  have y4 : m ≤ c1 := by omega
  have T1 : Hid (∀ V, RdB V a (M.recL c ++ r) → RdB V a1 (M.bodL c)) := fun V hV => by
    have := (RB.out V hV).take m
    rw [EM.out, List.take_left] at this
    exact this
  have T2 : Hid (∀ V, RdB V a (M.recL c ++ r) → RdB V (if c1 = m then a1 else Option.map (fun x => x.add m) a1) r) := fun V hV => by
    have := rdB_slice (c := c1) (k := m) (RB.out V hV) (by have := EM.out; rw [List.length_append]; omega)
    rw [show (M.bodL c ++ r).drop m = r by rw [EM.out, List.drop_left]] at this
    exact this
  have N2 : Hid ((if c1 = m then a1 else Option.map (fun x => x.add m) a1) = none → c1 - m = 0) := fun z => by
    split at z
    · omega
    · cases a1 with
      | none => have := N1.out rfl; omega
      | some p => cases z
  have X2 : Hid (n1 - m = r.length ∧ n1 ≤ c1 ∧ c1 ≤ 9223372036854775807) := ⟨by omega, x2, x3⟩
  clear x1 x2 x3 RB HM RL
  by_cases hcm : c1 = m
  · have t2 := T2.out
    rw [if_pos hcm] at t2
    clear T2
    have T2 := hide t2
    clear t2 N2
    subst hcm
    go_quiet (fail)
    go_wp2
    go_ret3
    have e2 := X2.out.1
    exact ⟨a1, c1, a1, 0, by rw [e2, ← EM.out]; rfl, fun V hV => ⟨T1.out V hV, T2.out V hV⟩, by rw [← EM.out]; exact Nat.le_refl _, X2.out.2.2, by have := X2.out; omega, by omega, fun _ => rfl, N1.out, below_drew (Below.refl _ _) nq (Nat.le_refl _)⟩
  · have t2 := T2.out
    have n2 := N2.out
    rw [if_neg hcm] at t2 n2
    clear T2 N2
    have T2 := hide t2
    have N2 := hide n2
    clear t2 n2
    go_quiet (fail)
    go_wp2
    go_ret3
    have e2 := X2.out.1
    exact ⟨a1, c1, _, c1 - m, by rw [e2, ← EM.out]; rfl, fun V hV => ⟨T1.out V hV, T2.out V hV⟩, by rw [← EM.out]; exact y4, X2.out.2.2, by have := X2.out; omega, by have := X2.out; omega, N2.out, N1.out, below_drew (Below.refl _ _) nq (Nat.le_refl _)⟩
/-- how long a slice is -/
def lenV : Value → Nat
  | .slice _ n _ => n
  | _ => 0

set_option maxHeartbeats 4000000 in
theorem lg_wholeOf (a : Option Addr) (l : List M.Ca) (t : List Nat) (ca : Nat) (w : World) (hl : ∀ c ∈ l, M.CaOk c) (ht : M.TailOk t) (h : RdB w a (M.recs l ++ t)) (hc : (M.recs l ++ t).length ≤ ca) (hca : ca ≤ 9223372036854775807) (hn : a = none → ca = 0) :
    Calls Tryz.prog 57 #[.slice a (M.recs l ++ t).length ca] w fun e w' => e = .returned (.int .i64 ((M.recs l).length : Int)) ∧ Below w.heap.size w w' := by
  have hm : (M.recs l ++ t).length ≤ 9223372036854775807 := h.1
  have LL : (M.recs l ++ t).length = (M.recs l).length + t.length := List.length_append
  have R0 : Hid (RdB w a (M.recs (l.drop 0) ++ t)) := h
  have C0 : Hid ((M.recs (l.drop 0) ++ t).length ≤ ca ∧ ca ≤ 9223372036854775807 ∧ (a = none → ca = 0)) := ⟨hc, hca, hn⟩
  have HL := hide hl
  have NO := hide (fun (a : Option Addr) (ca : Nat) (w : World) (h : RdB w a t) => lg_split_no a t ca w h ht.short)
  have YE := hide (fun (a : Option Addr) (c : M.Ca) (r : List Nat) (ca : Nat) (w : World) hc h hl hca hn => lg_split a c r ca w hc h hl hca hn)
  clear h hc hca hn hl ht
  obtain ⟨N, hN⟩ : ∃ N, N = (M.recs l ++ t).length := ⟨_, rfl⟩
  obtain ⟨X, hX⟩ : ∃ X, X = (M.recs l).length := ⟨_, rfl⟩
  rw [← hN] at hm LL ⊢
  rw [← hX] at LL ⊢
  have EX := hide hX
  clear hN hX
  go_enter Tryz.func57, Tryz.ntmps57
  have e0 : N = (M.recs (l.drop 0) ++ t).length := by rw [List.length_append]; show N = (M.recs l).length + _; rw [← EX.out]; exact LL
  go_wp2
  have LH := hide LL
  clear LL
  go_loopw [2, 3] (fun r v wr => ∃ (j : Nat) (b : Option Addr) (cb : Nat), j ≤ l.length ∧ v = .slice b (M.recs (l.drop j) ++ t).length cb ∧ Hid (RdB wr b (M.recs (l.drop j) ++ t)) ∧ Hid ((M.recs (l.drop j) ++ t).length ≤ cb ∧ cb ≤ 9223372036854775807 ∧ (b = none → cb = 0)) ∧ Hid (Below w.heap.size w wr)) (fun _ v _ => lenV v)
  case atStart => exact ⟨0, a, ca, Nat.zero_le _, by rw [e0], R0, C0, Below.refl _ _⟩
  case round =>
    clear R0 C0 e0
    obtain ⟨j, b, cb, hj, rfl, RR, CC, KK⟩ := hrel
    by_cases hlt : j < l.length
    · have ok := HL.out l[j] (List.getElem_mem hlt)
      have er : M.recs (l.drop j) ++ t = M.recL l[j] ++ (M.recs (l.drop (j + 1)) ++ t) := by rw [M.recs_drop hlt, List.append_assoc]
      rw [er] at RR CC ⊢
      have SP := hide (YE.out b l[j] _ cb wr ok RR.out CC.out.1 CC.out.2.1 CC.out.2.2)
      have sh : (M.recs (l.drop (j + 1)) ++ t).length < (M.recL l[j] ++ (M.recs (l.drop (j + 1)) ++ t)).length := by
        have := ok.rec_le
        have e9 : (M.recL l[j] ++ (M.recs (l.drop (j + 1)) ++ t)).length = (M.recL l[j]).length + (M.recs (l.drop (j + 1)) ++ t).length := List.length_append
        omega
      clear er YE NO CC ok
      generalize (M.recL l[j] ++ (M.recs (l.drop (j + 1)) ++ t)).length = n0 at *
      obtain ⟨n1, hn1⟩ : ∃ x, x = (M.recs (l.drop (j + 1)) ++ t).length := ⟨_, rfl⟩
      rw [← hn1] at sh
      simp only [← hn1] at SP
      have E1 := hide hn1
      clear hn1
      go_wp2_with (go_at_call 28; refine SP.out.mono ?_; rintro e w1 ⟨a1, c1, a2, c2, rfl, rr, q1, q2, q3, q4, q5, q6, b1⟩; have R2 := hide ((rr _ RR.out).2.below b1); have C2 := hide (And.intro q3 (And.intro q4 q5)); have K2 := hide (below_on KK.out b1); clear rr q1 q2 q3 q4 q5 q6 b1)
      go_roundw
      case rel => exact ⟨j + 1, a2, c2, hlt, by rw [← E1.out], R2, by unfold Hid; rw [← E1.out]; exact C2.out, K2⟩
      case measure => exact sh
    · have ej : j = l.length := by omega
      have er : M.recs (l.drop j) ++ t = t := by rw [ej, List.drop_length]; rfl
      rw [er] at RR CC ⊢
      have SP := hide (NO.out b cb wr RR.out)
      have LL := LH.out
      have ex : IntKind.i64.wrap ((N : Int) - (t.length : Int)) = (X : Int) := by rw [i64_in (by omega) (by omega)]; omega
      clear er YE NO RR CC
      clear LL LH
      generalize t.length = n0 at *
      go_wp2_with (go_at_call 28; refine SP.out.mono ?_; rintro e w1 ⟨rfl, ew⟩; have ew2 := ew.symm; subst ew2)
      go_ret
      exact ⟨rfl, KK.out⟩

theorem own_stay {W W' : World} {B n : Nat} {e : TypeId} {size : Nat} {a : Option Addr} {c : Nat} {l : List Value} (h : W.ownsRow B e size (.slice a n c) n l) (hk : ∀ p, a = some p → W'.heap[p.block]? = W.heap[p.block]?) : W'.ownsRow B e size (.slice a n c) n l := by
  refine ⟨h.1, ?_⟩
  rcases h.2 with z | ⟨g, cap, cur, hv, hb, hg, r⟩
  · exact .inl z
  · refine .inr ⟨g, cap, cur, hv, hb, ?_, r⟩
    cases hv
    rw [hk _ rfl]
    exact hg
/-- one of its cells is written -/
theorem LA.put {W : World} {f : Nat} {va : Option Addr} {vc : Nat} {L L' : M.Lg} (h : LA W f va vc L) {j : Nat} {v : Value} (hb : L'.bytes = L.bytes) (hl : (lgL va vc L).set j v = lgL va vc L') (ok : M.LgOk L') : LA (W.setCell ⟨f, j, none⟩ v) f va vc L' ∧ StayBut (fun q => q = f) W (W.setCell ⟨f, j, none⟩ v) := by
  refine ⟨⟨ok, ?_, ?_, h.ne⟩, stay_set rfl⟩
  · have := h.box.put (j := j) (v := v)
    rw [hl] at this
    exact this
  · rw [hb]
    exact own_stay h.own (fun p hp => heap_setCell_other _ _ _ _ (h.ne p hp))

set_option maxHeartbeats 4000000 in
theorem lg_step {W : World} {f : Nat} {va : Option Addr} {vc : Nat} {L : M.Lg} (h : LA W f va vc L) :
    Calls Tryz.prog 38 #[.pointer (some ⟨f, 0, none⟩)] W fun e w' => e = .returned (errV (if M.stpF L = true then 9 else 0)) ∧ LA w' f va vc (M.stpL L) ∧ StayBut (fun q => q = f) W w' := by
  have c3 := h.box.cell 3 _ rfl
  have c4 := h.box.cell 4 _ rfl
  have z3 := h.box.free 3
  have z4 := h.box.free 4
  have ok' := M.stp_ok h.ok
  have i64 := h.ok.ah
  by_cases q : L.ahead = 0
  · have F : M.stpF L = true := by unfold M.stpF; rw [decide_eq_true q, Bool.or_true]
    have P := hide (h.put (L' := M.stpL L) (j := 4) (v := .bool true) rfl (by unfold lgL M.stpL; rw [if_pos F, F]; rfl) ok')
    rw [if_pos F, err_some (by decide)]
    rw [q] at c3
    have c5 : (W.setCell ⟨f, 4, none⟩ (.bool true)).cell? ⟨f, 4, none⟩ = some (.bool true) := cell_set_same c4
    clear h ok' i64 F
    go_enter Tryz.func38, Tryz.ntmps38
    go_wp2
    go_ret
    exact ⟨rfl, P.out⟩
  · have q0 : (L.ahead == 0) = false := by rw [beq_eq_false_iff_ne]; exact q
    cases hs : L.stop with
    | true =>
      have F : M.stpF L = true := by unfold M.stpF; rw [hs]; rfl
      have P : Hid (LA W f va vc (M.stpL L)) := by
        have e : M.stpL L = L := by
          unfold M.stpL
          rw [if_pos F, F, ← hs]
        unfold Hid; rw [e]; exact h
      rw [if_pos F, err_some (by decide)]
      rw [hs] at c4
      clear h ok' i64 F hs
      generalize L.ahead = ah at *
      go_enter Tryz.func38, Tryz.ntmps38
      go_wp2
      go_ret
      exact ⟨rfl, P.out, StayBut.refl _ _⟩
    | false =>
      have F : M.stpF L = false := by unfold M.stpF; rw [hs, decide_eq_false q]; rfl
      rw [if_neg (by rw [F]; decide), err_nil rfl]
      rw [hs] at c4
      by_cases g : 0 < L.ahead
      · have P := hide (h.put (L' := M.stpL L) (j := 3) (v := .int .i64 (L.ahead - 1)) rfl (by unfold lgL M.stpL; rw [if_neg (by rw [F]; decide), if_pos g, F, hs]; rfl) ok')
        have wr : IntKind.i64.wrap (L.ahead - 1) = L.ahead - 1 := i64_in (by have := i64.2; omega) (by have := i64.2; omega)
        have g0 : decide (0 < L.ahead) = true := decide_eq_true g
        clear h ok' i64 F hs
        generalize M.stpL L = LS at *
        generalize L.ahead = ah at *
        go_enter Tryz.func38, Tryz.ntmps38
        go_wp2
        go_ret
        exact ⟨rfl, P.out⟩
      · have P : Hid (LA W f va vc (M.stpL L)) := by
          have e : M.stpL L = L := by
            unfold M.stpL
            rw [if_neg (by rw [F]; decide), if_neg g, F, ← hs]
          unfold Hid; rw [e]; exact h
        have g0 : decide (0 < L.ahead) = false := decide_eq_false g
        clear h ok' i64 F hs
        generalize M.stpL L = LS at *
        generalize L.ahead = ah at *
        go_enter Tryz.func38, Tryz.ntmps38
        go_wp2
        go_ret
        exact ⟨rfl, P.out, StayBut.refl _ _⟩

theorem lg_New (W : World) : Calls Tryz.prog 10 #[] W fun e w' => ∃ f, e = .returned (.pointer (some ⟨f, 0, none⟩)) ∧ LA w' f none 0 M.lg0 ∧ Below W.heap.size W w' ∧ f = W.heap.size := by
  have FIN : Hid (LA (W.alloc (.cells #[.slice none 0 0, .int .i64 0, .int .i64 0, .int .i64 (-1), .bool false] 64)) W.heap.size none 0 M.lg0 ∧ Below W.heap.size W (W.alloc (.cells #[.slice none 0 0, .int .i64 0, .int .i64 0, .int .i64 (-1), .bool false] 64))) :=
    ⟨⟨M.lg0_ok, bx_new W [.slice none 0 0, .int .i64 0, .int .i64 0, .int .i64 (-1), .bool false] 64, World.ownsRow_nil _ _ _ _, fun p hp => by cases hp⟩, (Below.refl _ _).alloc (Nat.le_refl _) _⟩
  go_enter Tryz.func10, Tryz.ntmps10
  go_wp2
  go_ret
  exact ⟨_, rfl, FIN.out.1, FIN.out.2, rfl⟩
end Go.Proofs.YtodidokeblblgaaGreat
