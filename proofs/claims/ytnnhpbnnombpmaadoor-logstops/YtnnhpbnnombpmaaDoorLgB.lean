/-
  What package log's wholeOf, step, cut, Fail, Safe, New answer, and what they leave.
-/
import Derived.Test.YtnnhpbnnombpmaaDoorLgA
import Derived.Test.YtnnhpbnnombpmaaDoorWraps
namespace Go.Proofs.YtnnhpbnnombpmaaDoor
open Go.ChangeShapes Go.WideShapes Go.ChangeAt Go.RowKit Go.Lib
set_option linter.unusedVariables false

/-- how long a slice is -/
def lenV : Value → Nat
  | .slice _ n _ => n
  | _ => 0

set_option maxHeartbeats 4000000 in
theorem lg_wholeOf (a : Option Addr) (l : List M.Ca) (t : List Nat) (ca : Nat) (w : World) (hl : ∀ c ∈ l, M.CaOk c) (ht : M.TailOk t) (h : RdB w a (M.recs l ++ t)) (hc : (M.recs l ++ t).length ≤ ca) (hca : ca ≤ 9223372036854775807) (hn : a = none → ca = 0) :
    Calls Tryd.prog 31 #[.slice a (M.recs l ++ t).length ca] w fun e w' => e = .returned (.int .i64 ((M.recs l).length : Int)) ∧ Below w.heap.size w w' := by
  have hm : (M.recs l ++ t).length ≤ 9223372036854775807 := h.1
  have LL : (M.recs l ++ t).length = (M.recs l).length + t.length := List.length_append
  have R0 : Hid (RdB w a (M.recs (l.drop 0) ++ t)) := h
  have C0 : Hid ((M.recs (l.drop 0) ++ t).length ≤ ca ∧ ca ≤ 9223372036854775807 ∧ (a = none → ca = 0)) := ⟨hc, hca, hn⟩
  have HL := hide hl
  have NO := hide (fun (a : Option Addr) (ca : Nat) (w : World) (h : RdB w a t) => lg_split_no a t ca w h ht.short)
  have YE := hide (fun (a : Option Addr) (c : M.Ca) (r : List Nat) (ca : Nat) (w : World) hc h hl hca hn => lg_split a c r ca w hc h hl hca hn)
  clear h hc hca hn hl ht
  obtain ⟨N, hN⟩ : ∃ N, N = (M.recs l ++ t).length := ⟨_, rfl⟩
  obtain ⟨X, hX⟩ : ∃ X, X = (M.recs l).length := ⟨_, rfl⟩
  rw [← hN] at hm LL ⊢
  rw [← hX] at LL ⊢
  have EX := hide hX
  clear hN hX
  go_enter Tryd.func31, Tryd.ntmps31
  have e0 : N = (M.recs (l.drop 0) ++ t).length := by rw [List.length_append]; show N = (M.recs l).length + _; rw [← EX.out]; exact LL
  go_wp2
  have LH := hide LL
  clear LL
  go_loopw [2, 3] (fun r v wr => ∃ (j : Nat) (b : Option Addr) (cb : Nat), j ≤ l.length ∧ v = .slice b (M.recs (l.drop j) ++ t).length cb ∧ Hid (RdB wr b (M.recs (l.drop j) ++ t)) ∧ Hid ((M.recs (l.drop j) ++ t).length ≤ cb ∧ cb ≤ 9223372036854775807 ∧ (b = none → cb = 0)) ∧ Hid (Below w.heap.size w wr)) (fun _ v _ => lenV v)
  case atStart => exact ⟨0, a, ca, Nat.zero_le _, by rw [e0], R0, C0, Below.refl _ _⟩
  case round =>
    clear R0 C0 e0
    obtain ⟨j, b, cb, hj, rfl, RR, CC, KK⟩ := hrel
    by_cases hlt : j < l.length
    · have ok := HL.out l[j] (List.getElem_mem hlt)
      have er : M.recs (l.drop j) ++ t = M.recL l[j] ++ (M.recs (l.drop (j + 1)) ++ t) := by rw [M.recs_drop hlt, List.append_assoc]
      rw [er] at RR CC ⊢
      have SP := hide (YE.out b l[j] _ cb wr ok RR.out CC.out.1 CC.out.2.1 CC.out.2.2)
      have sh : (M.recs (l.drop (j + 1)) ++ t).length < (M.recL l[j] ++ (M.recs (l.drop (j + 1)) ++ t)).length := by
        have := ok.rec_le
        have e9 : (M.recL l[j] ++ (M.recs (l.drop (j + 1)) ++ t)).length = (M.recL l[j]).length + (M.recs (l.drop (j + 1)) ++ t).length := List.length_append
        omega
      clear er YE NO CC ok
      generalize (M.recL l[j] ++ (M.recs (l.drop (j + 1)) ++ t)).length = n0 at *
      obtain ⟨n1, hn1⟩ : ∃ x, x = (M.recs (l.drop (j + 1)) ++ t).length := ⟨_, rfl⟩
      rw [← hn1] at sh
      simp only [← hn1] at SP
      have E1 := hide hn1
      clear hn1
      go_wp2_with (go_at_call 23; refine SP.out.mono ?_; rintro e w1 ⟨a1, c1, a2, c2, rfl, rr, q1, q2, q3, q4, q5, q6, b1⟩; have R2 := hide ((rr _ RR.out).2.below b1); have C2 := hide (And.intro q3 (And.intro q4 q5)); have K2 := hide (below_on KK.out b1); clear rr q1 q2 q3 q4 q5 q6 b1)
      go_roundw
      case rel => exact ⟨j + 1, a2, c2, hlt, by rw [← E1.out], R2, by unfold Hid; rw [← E1.out]; exact C2.out, K2⟩
      case measure => exact sh
    · have ej : j = l.length := by omega
      have er : M.recs (l.drop j) ++ t = t := by rw [ej, List.drop_length]; rfl
      rw [er] at RR CC ⊢
      have SP := hide (NO.out b cb wr RR.out)
      have LL := LH.out
      have ex : IntKind.i64.wrap ((N : Int) - (t.length : Int)) = (X : Int) := by rw [i64_in (by omega) (by omega)]; omega
      clear er YE NO RR CC
      clear LL LH
      generalize t.length = n0 at *
      go_wp2_with (go_at_call 23; refine SP.out.mono ?_; rintro e w1 ⟨rfl, ew⟩; have ew2 := ew.symm; subst ew2)
      go_ret
      exact ⟨rfl, KK.out⟩

theorem own_stay {W W' : World} {B n : Nat} {e : TypeId} {size : Nat} {a : Option Addr} {c : Nat} {l : List Value} (h : W.ownsRow B e size (.slice a n c) n l) (hk : ∀ p, a = some p → W'.heap[p.block]? = W.heap[p.block]?) : W'.ownsRow B e size (.slice a n c) n l := by
  refine ⟨h.1, ?_⟩
  rcases h.2 with z | ⟨g, cap, cur, hv, hb, hg, r⟩
  · exact .inl z
  · refine .inr ⟨g, cap, cur, hv, hb, ?_, r⟩
    cases hv
    rw [hk _ rfl]
    exact hg
/-- one of its cells is written -/
theorem LA.put {W : World} {f : Nat} {va : Option Addr} {vc : Nat} {L L' : M.Lg} (h : LA W f va vc L) {j : Nat} {v : Value} (hb : L'.bytes = L.bytes) (hl : (lgL va vc L).set j v = lgL va vc L') (ok : M.LgOk L') : LA (W.setCell ⟨f, j, none⟩ v) f va vc L' ∧ StayBut (fun q => q = f) W (W.setCell ⟨f, j, none⟩ v) := by
  refine ⟨⟨ok, ?_, ?_, h.ne⟩, stay_set rfl⟩
  · have := h.box.put (j := j) (v := v)
    rw [hl] at this
    exact this
  · rw [hb]
    exact own_stay h.own (fun p hp => heap_setCell_other _ _ _ _ (h.ne p hp))

set_option maxHeartbeats 4000000 in
theorem lg_step {W : World} {f : Nat} {va : Option Addr} {vc : Nat} {L : M.Lg} (h : LA W f va vc L) :
    Calls Tryd.prog 21 #[.pointer (some ⟨f, 0, none⟩)] W fun e w' => e = .returned (errV (if M.stpF L = true then 9 else 0)) ∧ LA w' f va vc (M.stpL L) ∧ StayBut (fun q => q = f) W w' := by
  have c3 := h.box.cell 3 _ rfl
  have c4 := h.box.cell 4 _ rfl
  have z3 := h.box.free 3
  have z4 := h.box.free 4
  have ok' := M.stp_ok h.ok
  have i64 := h.ok.ah
  by_cases q : L.ahead = 0
  · have F : M.stpF L = true := by unfold M.stpF; rw [decide_eq_true q, Bool.or_true]
    have P := hide (h.put (L' := M.stpL L) (j := 4) (v := .bool true) rfl (by unfold lgL M.stpL; rw [if_pos F, F]; rfl) ok')
    rw [if_pos F, err_some (by decide)]
    rw [q] at c3
    have c5 : (W.setCell ⟨f, 4, none⟩ (.bool true)).cell? ⟨f, 4, none⟩ = some (.bool true) := cell_set_same c4
    clear h ok' i64 F
    go_enter Tryd.func21, Tryd.ntmps21
    go_wp2
    go_ret
    exact ⟨rfl, P.out⟩
  · have q0 : (L.ahead == 0) = false := by rw [beq_eq_false_iff_ne]; exact q
    cases hs : L.stop with
    | true =>
      have F : M.stpF L = true := by unfold M.stpF; rw [hs]; rfl
      have P : Hid (LA W f va vc (M.stpL L)) := by
        have e : M.stpL L = L := by
          unfold M.stpL
          rw [if_pos F, F, ← hs]
        unfold Hid; rw [e]; exact h
      rw [if_pos F, err_some (by decide)]
      rw [hs] at c4
      clear h ok' i64 F hs
      generalize L.ahead = ah at *
      go_enter Tryd.func21, Tryd.ntmps21
      go_wp2
      go_ret
      exact ⟨rfl, P.out, StayBut.refl _ _⟩
    | false =>
      have F : M.stpF L = false := by unfold M.stpF; rw [hs, decide_eq_false q]; rfl
      rw [if_neg (by rw [F]; decide), err_nil rfl]
      rw [hs] at c4
      by_cases g : 0 < L.ahead
      · have P := hide (h.put (L' := M.stpL L) (j := 3) (v := .int .i64 (L.ahead - 1)) rfl (by unfold lgL M.stpL; rw [if_neg (by rw [F]; decide), if_pos g, F, hs]; rfl) ok')
        have wr : IntKind.i64.wrap (L.ahead - 1) = L.ahead - 1 := i64_in (by have := i64.2; omega) (by have := i64.2; omega)
        have g0 : decide (0 < L.ahead) = true := decide_eq_true g
        clear h ok' i64 F hs
        generalize M.stpL L = LS at *
        generalize L.ahead = ah at *
        go_enter Tryd.func21, Tryd.ntmps21
        go_wp2
        go_ret
        exact ⟨rfl, P.out⟩
      · have P : Hid (LA W f va vc (M.stpL L)) := by
          have e : M.stpL L = L := by
            unfold M.stpL
            rw [if_neg (by rw [F]; decide), if_neg g, F, ← hs]
          unfold Hid; rw [e]; exact h
        have g0 : decide (0 < L.ahead) = false := decide_eq_false g
        clear h ok' i64 F hs
        generalize M.stpL L = LS at *
        generalize L.ahead = ah at *
        go_enter Tryd.func21, Tryd.ntmps21
        go_wp2
        go_ret
        exact ⟨rfl, P.out, StayBut.refl _ _⟩

set_option maxHeartbeats 4000000 in
theorem lg_Fail {W : World} {f : Nat} {va : Option Addr} {vc : Nat} {L : M.Lg} (h : LA W f va vc L) (n : Int) (hn : M.I64 n) :
    Calls Tryd.prog 6 #[.pointer (some ⟨f, 0, none⟩), .int .i64 n] W fun e w' => e = .returned (.tuple #[]) ∧ LA w' f va vc ⟨L.calls, L.tail, L.safe, n, L.stop⟩ ∧ StayBut (fun q => q = f) W w' := by
  have c3 := h.box.cell 3 _ rfl
  have z3 := h.box.free 3
  have P := hide (h.put (L' := ⟨L.calls, L.tail, L.safe, n, L.stop⟩) (j := 3) (v := .int .i64 n) rfl rfl ⟨h.ok.ok, h.ok.tl, h.ok.wh, h.ok.sf, hn⟩)
  clear h
  generalize L.ahead = ah at *
  go_enter Tryd.func6, Tryd.ntmps6
  go_wp2
  go_end0
  exact ⟨rfl, P.out⟩
theorem lg_Safe {W : World} {f : Nat} {va : Option Addr} {vc : Nat} {L : M.Lg} (h : LA W f va vc L) :
    Calls Tryd.prog 12 #[.pointer (some ⟨f, 0, none⟩)] W fun e w' => e = .returned (.int .i64 (L.safe : Int)) ∧ w' = W := by
  have c2 := h.box.cell 2 _ rfl
  clear h
  go_enter Tryd.func12, Tryd.ntmps12
  go_wp2
  go_ret
  exact ⟨rfl, rfl⟩
theorem lg_New (W : World) : Calls Tryd.prog 5 #[] W fun e w' => ∃ f, e = .returned (.pointer (some ⟨f, 0, none⟩)) ∧ LA w' f none 0 M.lg0 ∧ Below W.heap.size W w' ∧ f = W.heap.size := by
  have FIN : Hid (LA (W.alloc (.cells #[.slice none 0 0, .int .i64 0, .int .i64 0, .int .i64 (-1), .bool false] 48)) W.heap.size none 0 M.lg0 ∧ Below W.heap.size W (W.alloc (.cells #[.slice none 0 0, .int .i64 0, .int .i64 0, .int .i64 (-1), .bool false] 48))) :=
    ⟨⟨M.lg0_ok, bx_new W [.slice none 0 0, .int .i64 0, .int .i64 0, .int .i64 (-1), .bool false] 48, World.ownsRow_nil _ _ _ _, fun p hp => by cases hp⟩, (Below.refl _ _).alloc (Nat.le_refl _) _⟩
  go_enter Tryd.func5, Tryd.ntmps5
  go_wp2
  go_ret
  exact ⟨_, rfl, FIN.out.1, FIN.out.2, rfl⟩

end Go.Proofs.YtnnhpbnnombpmaaDoor
