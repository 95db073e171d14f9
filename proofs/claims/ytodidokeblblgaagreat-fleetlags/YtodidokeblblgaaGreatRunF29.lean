/-
  Several texts as one: LgCall.
-/
import Derived.Test.YtodidokeblblgaaGreatRunF28
namespace Go.Proofs.YtodidokeblblgaaGreat
open Go.ChangeShapes Go.WideShapes Go.ChangeAt Go.RowKit Go.Lib
set_option linter.unusedVariables false
set_option maxHeartbeats 8000000 in
set_option maxRecDepth 10000 in
theorem lg_Call {W : World} {f : Nat} {va : Option Addr} {vc : Nat} {L : M.Lg} (h : LA W f va vc L) {k : Nat} (hk : k < L.calls.length) :
    Calls Tryz.prog 19 #[.pointer (some ⟨f, 0, none⟩), .int .i64 (k : Int)] W fun e w' => ∃ a c, e = .returned (.tuple #[caV (L.calls.getD k M.caR) a c, .bool true]) ∧ CaIn w' (L.calls.getD k M.caR) a c ∧ Below W.heap.size W w' ∧ ∀ p, a = some p → W.heap.size ≤ p.block ∧ p.block < w'.heap.size := by
  obtain ⟨rd, rn, rl, rc⟩ := h.rd
  obtain ⟨ck, hck⟩ : ∃ x, x = L.calls.getD k M.caR := ⟨_, rfl⟩
  rw [← hck]
  have HCK : Hid (ck = L.calls.getD k M.caR) := hck
  clear hck
  unfold caV
  obtain ⟨W1, hW1⟩ : ∃ X, X = W.alloc (.cells #[.int .i64 0, .int .i64 0, .int .i64 0, .string ⟨#[]⟩, .int .i64 0, .int .i64 0, .slice none 0 0] 35) := ⟨_, rfl⟩
  have ba : Below W.heap.size W W1 := by rw [hW1]; exact (Below.refl _ _).alloc (Nat.le_refl _) _
  have z1 : W1.heap.size = W.heap.size + 1 := by rw [hW1]; simp
  have bx : Bx W1 W.heap.size [.int .i64 0, .int .i64 0, .int .i64 0, .string ⟨#[]⟩, .int .i64 0, .int .i64 0, .slice none 0 0] := by rw [hW1]; exact bx_new W _ _
  have c0 := (h.below ba).box.cell 0 _ rfl
  have HL := hide h.ok.ok
  have LN : L.calls.length ≤ 100000 := Nat.le_trans (M.recs_more _ h.ok.ok) h.ok.wh
  have YE := hide (fun (a : Option Addr) (c : M.Ca) (r : List Nat) (ca : Nat) (w : World) hc h hl hca hn => lg_split a c r ca w hc h hl hca hn)
  have RE := hide (fun (a : Option Addr) (c : M.Ca) (ca : Nat) (w : World) hc h hl hca hn => lg_read a c ca w hc h hl hca hn)
  have e0 : L.bytes = M.recs (L.calls.drop 0) ++ L.tail := rfl
  rw [e0] at rd rl c0
  have R0 : Hid (RdB W1 va (M.recs (L.calls.drop 0) ++ L.tail)) := rd.below ba
  have C0 : Hid ((M.recs (L.calls.drop 0) ++ L.tail).length ≤ vc ∧ vc ≤ 9223372036854775807 ∧ (va = none → vc = 0)) := ⟨rl, rc, rn⟩
  have BA := hide ba
  have BX := hide bx
  have Z1 := hide z1
  clear h rd rn rl rc e0 ba bx z1
  obtain ⟨n0, hn0⟩ : ∃ x, x = (M.recs (L.calls.drop 0) ++ L.tail).length := ⟨_, rfl⟩
  rw [← hn0] at c0
  have E0 := hide hn0
  clear hn0
  go_enter Tryz.func19, Tryz.ntmps19
  go_upto_region 1 with fail
  rw [← hW1]
  clear hW1
  go_wp2
  go_loopw [1, 6, 7, 8, 9] (fun v r _ _ _ wr => ∃ (j m : Nat) (b : Option Addr) (cb : Nat), j + m = k ∧ v = .int .i64 (m : Int) ∧ r = .slice b (M.recs (L.calls.drop j) ++ L.tail).length cb ∧ Hid (RdB W1 b (M.recs (L.calls.drop j) ++ L.tail)) ∧ Hid ((M.recs (L.calls.drop j) ++ L.tail).length ≤ cb ∧ cb ≤ 9223372036854775807 ∧ (b = none → cb = 0)) ∧ Hid (Below W1.heap.size W1 wr)) (fun v _ _ _ _ _ => (intOf v).toNat)
  case atStart => exact ⟨0, k, va, vc, Nat.zero_add k, rfl, by rw [E0.out], R0, C0, Below.refl _ _⟩
  case round =>
    clear R0 C0 c0 E0
    obtain ⟨j, m, b, cb, hj, rfl, rfl, RR, CB, KK⟩ := hrel
    have hlt : j < L.calls.length := by omega
    have ok := HL.out L.calls[j] (List.getElem_mem hlt)
    have er : M.recs (L.calls.drop j) ++ L.tail = M.recL L.calls[j] ++ (M.recs (L.calls.drop (j + 1)) ++ L.tail) := by rw [M.recs_drop hlt, List.append_assoc]
    rw [er] at RR CB ⊢
    have SP := hide (YE.out b L.calls[j] _ cb wr ok (RR.out.below KK.out) CB.out.1 CB.out.2.1 CB.out.2.2)
    have OK := hide ok
    clear er YE CB ok
    generalize (M.recL L.calls[j] ++ (M.recs (L.calls.drop (j + 1)) ++ L.tail)).length = n1 at *
    obtain ⟨n2, hn2⟩ : ∃ x, x = (M.recs (L.calls.drop (j + 1)) ++ L.tail).length := ⟨_, rfl⟩
    simp only [← hn2] at SP
    have E2 := hide hn2
    clear hn2
    go_upto_region 6 with (go_at_call 28; refine SP.out.mono ?_; rintro e w1 ⟨a1, c1, a2, c2, rfl, rr, q1, q2, q3, q4, q5, q6, b1⟩; have R1 := hide ((rr _ (RR.out.below KK.out)).1.below b1); have R2 := hide (rr _ RR.out).2; have C1 := hide (And.intro q1 (And.intro q2 q6)); have C2 := hide (And.intro q3 (And.intro q4 q5)); have K1 := hide (below_on KK.out b1); clear rr q1 q2 q3 q4 q5 q6 b1)
    clear SP RR KK
    rcases m with _ | m
    · have ej : j = k := by omega
      have EC : Hid (L.calls[j] = ck) := by subst ej; unfold Hid; rw [HCK.out]; simp [List.getD, hlt]
      have RE1 := hide (RE.out a1 L.calls[j] c1 w1 OK.out R1.out C1.out.1 C1.out.2.1 C1.out.2.2)
      clear RE R1 C1 ej HL OK LN hj HCK
      generalize (M.bodL L.calls[j]).length = bl at *
      rw [EC.out] at RE1
      clear EC
      unfold caV at RE1
      have BX1 : Hid (Bx w1 W.heap.size [.int .i64 0, .int .i64 0, .int .i64 0, .string ⟨#[]⟩, .int .i64 0, .int .i64 0, .slice none 0 0]) := BX.out.keep (K1.out.block _ BX.out.lt)
      go_wp2_with (go_at_call 29; refine RE1.out.mono ?_; rintro e w2 ⟨a3, c3, rfl, ci, b2, np⟩; have BX2 : Hid (Bx w2 W.heap.size [.int .i64 0, .int .i64 0, .int .i64 0, .string ⟨#[]⟩, .int .i64 0, .int .i64 0, .slice none 0 0]) := BX1.out.keep (b2.block _ BX1.out.lt); have x0 := BX2.out.cell 0 _ rfl; have x1 := BX2.out.cell 1 _ rfl; have x2 := BX2.out.cell 2 _ rfl; have x3 := BX2.out.cell 3 _ rfl; have x4 := BX2.out.cell 4 _ rfl; have x5 := BX2.out.cell 5 _ rfl; have x6 := BX2.out.cell 6 _ rfl; have y0 := BX2.out.free 0; have y1 := BX2.out.free 1; have y2 := BX2.out.free 2; have y3 := BX2.out.free 3; have y4 := BX2.out.free 4; have y5 := BX2.out.free 5; have y6 := BX2.out.free 6; have CI := hide ci; have B2 := hide b2; have NP := hide np; clear ci b2 np)
      have fin := ((((((BX2.out.put (j := 0) (v := .int .i64 ck.what)).put (j := 1) (v := .int .i64 ck.ses)).put (j := 2) (v := .int .i64 ck.seq)).put (j := 3) (v := .string (byStr ck.name))).put (j := 4) (v := .int .i64 ck.num)).put (j := 5) (v := .int .i64 ck.share)).put (j := 6) (v := .slice a3 ck.bys.length c3)
      have e0 := fin.cell 0 _ rfl
      have e1 := fin.cell 1 _ rfl
      have e2 := fin.cell 2 _ rfl
      have e3 := fin.cell 3 _ rfl
      have e4 := fin.cell 4 _ rfl
      have e5 := fin.cell 5 _ rfl
      have e6 := fin.cell 6 _ rfl
      clear fin
      refine bodyPost_ret (v := .tuple #[.agg #[.int .i64 ck.what, .int .i64 ck.ses, .int .i64 ck.seq, .string (byStr ck.name), .int .i64 ck.num, .int .i64 ck.share, .slice a3 ck.bys.length c3], .bool true]) (by simp [results, Tryz.results19, go_sem, e0, e1, e2, e3, e4, e5, e6]) rfl ?_
      obtain ⟨wz, hwz⟩ : ∃ X, X = ((((((w2.setCell ⟨W.heap.size, 0, none⟩ (.int .i64 ck.what)).setCell ⟨W.heap.size, 1, none⟩ (.int .i64 ck.ses)).setCell ⟨W.heap.size, 2, none⟩ (.int .i64 ck.seq)).setCell ⟨W.heap.size, 3, none⟩ (.string (byStr ck.name))).setCell ⟨W.heap.size, 4, none⟩ (.int .i64 ck.num)).setCell ⟨W.heap.size, 5, none⟩ (.int .i64 ck.share)).setCell ⟨W.heap.size, 6, none⟩ (.slice a3 ck.bys.length c3) := ⟨_, rfl⟩
      have bz : Below W.heap.size W wz := by
        rw [hwz]
        have b3 : Below W.heap.size W w2 := below_on BA.out (below_on K1.out B2.out)
        exact ((((((b3.setCell (Nat.le_refl _) _).setCell (Nat.le_refl _) _).setCell (Nat.le_refl _) _).setCell (Nat.le_refl _) _).setCell (Nat.le_refl _) _).setCell (Nat.le_refl _) _).setCell (Nat.le_refl _) _
      have zz : wz.heap.size = w2.heap.size := by rw [hwz]; simp
      have oth : ∀ q, q ≠ W.heap.size → wz.heap[q]? = w2.heap[q]? := fun q hq => by
        rw [hwz]
        rw [heap_setCell_other _ _ _ _ hq, heap_setCell_other _ _ _ _ hq, heap_setCell_other _ _ _ _ hq, heap_setCell_other _ _ _ _ hq, heap_setCell_other _ _ _ _ hq, heap_setCell_other _ _ _ _ hq, heap_setCell_other _ _ _ _ hq]
      have lw : W.heap.size < w1.heap.size := by have := K1.out.size; have := Z1.out; omega
      rw [← hwz]
      have hne : ∀ p, a3 = some p → wz.heap[p.block]? = w2.heap[p.block]? := fun p hp => oth _ (by have := (NP.out p hp).1; omega)
      refine ⟨a3, c3, rfl, CI.out.keep hne (by omega), bz, fun p hp => ?_⟩
      have := NP.out p hp
      omega
    · have j1 : j + 1 + m = k := by omega
      have t1 : (((m + 1 : Nat) : Int) == 0) = false := by rw [beq_eq_false_iff_ne]; omega
      have t2 : ((m : Int) + 1 == 0) = false := by rw [beq_eq_false_iff_ne]; omega
      have i1 : IntKind.i64.wrap ((m : Int) + 1 - 1) = (m : Int) := by rw [Int.add_sub_cancel]; exact i64_in (by omega) (by omega)
      have i2 : IntKind.i64.wrap (((m + 1 : Nat) : Int) - 1) = (m : Int) := by rw [show ((m + 1 : Nat) : Int) - 1 = (m : Int) by omega]; exact i64_in (by omega) (by omega)
      clear RE R1 C1 HL OK BX BA
      go_wp2
      go_roundw
      case rel => exact ⟨j + 1, m, a2, c2, j1, by go_num, by rw [← E2.out], R2, by unfold Hid; rw [← E2.out]; exact C2.out, K1⟩
      case measure => simp [intOf]
theorem HL.call {W w : World} {f : Nat} {va : Option Addr} {L : M.Lg} (h : HL W w f va L) {k : Nat} (hk : k < L.calls.length) :
    Calls Tryz.prog 19 #[.pointer (some ⟨f, 0, none⟩), .int .i64 (k : Int)] w fun e w' => ∃ a c, e = .returned (.tuple #[caV (L.calls.getD k M.caR) a c, .bool true]) ∧ CaIn w' (L.calls.getD k M.caR) a c ∧ Below w.heap.size w w' ∧ ∀ p, a = some p → w.heap.size ≤ p.block ∧ p.block < w'.heap.size := by
  obtain ⟨vc, h1⟩ := h.la
  exact lg_Call h1 hk
end Go.Proofs.YtodidokeblblgaaGreat
