/-
  Several texts as one: RefLgB, RefLgC, RefLgD, RefLgE.
-/
import Derived.Test.YtjjfmepinpmkfaaDoorRunP15
import Derived.Test.YtjjfmepinpmkfaaDoorRunP2
import Derived.Test.YtjjfmepinpmkfaaDoorRunP12
import Derived.Test.YtjjfmepinpmkfaaDoorRunP7
namespace Go.Proofs.YtjjfmepinpmkfaaDoor
open Go.ChangeShapes Go.WideShapes Go.ChangeAt Go.RowKit Go.Lib
set_option linter.unusedVariables false
theorem rl_time (n : Int) (w : World) : Calls Tryd.prog 22 #[.int .i64 n] w fun e w' => e = .returned (.bool (M.timeB n)) ∧ w' = w := by
  unfold M.timeB
  by_cases q : 0 ≤ n
  · have g : decide (0 ≤ n) = true := decide_eq_true q
    rw [g, Bool.true_and]
    go_enter Tryd.func22, Tryd.ntmps22
    go_wp2
    go_ret
    exact ⟨rfl, rfl⟩
  · have g : decide (0 ≤ n) = false := decide_eq_false q
    rw [g, Bool.false_and]
    go_enter Tryd.func22, Tryd.ntmps22
    go_wp2
    go_ret
    exact ⟨rfl, rfl⟩

set_option maxHeartbeats 4000000 in
theorem rl_Sync {w : World} {r : Nat} {ca : Option Addr} {cc : Nat} {al : List CaC} {ba : Option Addr} {bc : Nat} {L : M.Lg} {left : Int} (h : RL w r ca cc al ba bc L left) :
    Calls Tryd.prog 9 #[.pointer (some ⟨r, 0, none⟩)] w fun e w' => e = .returned (.int .i64 (M.syF L)) ∧ (∃ left', RL w' r ca cc al ba bc (M.syL L) left') ∧ StayBut (fun q => q = r) w w' := by
  have c5 := h.box.cell 5 _ rfl
  unfold M.syF
  cases hs : L.stop with
  | true =>
    have F : M.stpF L = true := by unfold M.stpF; rw [hs]; rfl
    have e : M.syL L = L := by
      unfold M.syL
      rw [if_pos F]
      unfold M.stpL
      rw [if_pos F, F, ← hs]
    rw [e, if_pos F]
    rw [hs] at c5
    have H := hide h
    clear h hs F e
    go_enter Tryd.func9, Tryd.ntmps9
    go_wp2
    go_ret
    exact ⟨rfl, ⟨left, H.out⟩, StayBut.refl _ _⟩
  | false =>
    rw [hs] at c5
    have ST := hide (rl_step h)
    have ok' := M.sy_ok h.ok
    cases hf : M.stpF L with
    | true =>
      rw [hf] at ST
      have e : M.syL L = M.stpL L := by unfold M.syL; rw [if_pos hf]
      rw [e, if_pos rfl]
      clear h hs hf e ok'
      generalize (if 0 ≤ left then left - 1 else left) = lf at *
      go_enter Tryd.func9, Tryd.ntmps9
      go_wp2_with (go_at_call 24; refine ST.out.mono ?_; rintro e w1 ⟨rfl, h1, s1⟩; have H1 := hide h1; have S1 := hide s1; clear h1 s1)
      go_ret
      exact ⟨rfl, ⟨_, H1.out⟩, S1.out⟩
    | false =>
      rw [hf] at ST
      have e : M.syL L = ⟨L.calls, L.tail, L.bytes.length, (M.stpL L).ahead, false⟩ := by unfold M.syL; rw [if_neg (by rw [hf]; decide)]
      rw [if_neg (by decide)]
      generalize (if 0 ≤ left then left - 1 else left) = lf at *
      have PU : Hid (∀ w1, RL w1 r ca cc al ba bc (M.stpL L) lf → w1.cell? ⟨r, 1, none⟩ = some (.slice ba L.bytes.length bc) ∧ (∃ u, w1.cell? ⟨r, 3, none⟩ = some u) ∧ w1.frozen? ⟨r, 3, none⟩ = false ∧ RL (w1.setCell ⟨r, 3, none⟩ (.int .i64 (L.bytes.length : Int))) r ca cc al ba bc (M.syL L) lf ∧ StayBut (fun q => q = r) w1 (w1.setCell ⟨r, 3, none⟩ (.int .i64 (L.bytes.length : Int)))) := fun w1 h1 => by
        have p := h1.put (L' := M.syL L) (left' := lf) (j := 3) (v := .int .i64 (L.bytes.length : Int)) (by rw [e]; rfl) (by rw [e]; rfl) (by rw [e]; unfold rlL; show [_, _, _, _, _, _] = [_, _, _, _, _, _]; rw [show (M.stpL L).stop = false from hf]; rfl) ok' ⟨h1.lr.1, fun _ => by rw [e]; exact h1.lr.2 hf⟩
        exact ⟨h1.box.cell 1 _ rfl, ⟨_, h1.box.cell 3 _ rfl⟩, h1.box.free 3, p⟩
      clear h hs hf e ok'
      generalize L.bytes.length = bn at *
      go_enter Tryd.func9, Tryd.ntmps9
      go_wp2_with (go_at_call 24; refine ST.out.mono ?_; rintro e w1 ⟨rfl, h1, s1⟩; obtain ⟨e0, ⟨u, e1⟩, e2, e3, e4⟩ := PU.out w1 h1; have E3 := hide e3; have E4 := hide (StayBut.trans s1 e4); clear h1 s1 e3 e4)
      go_ret
      exact ⟨rfl, ⟨lf, E3.out⟩, E4.out⟩
set_option maxHeartbeats 16000000 in
set_option maxRecDepth 10000 in
theorem rl_record (c : M.Ca) (a : Option Addr) (cap : Nat) (W : World) (hi : CaIn W c a cap) (h6 : ∀ x ∈ M.sixL c, M.I64 x) (hl : c.name.length + c.bys.length ≤ 140737488350000) :
    Calls Tryd.prog 23 #[caV c a cap] W fun e w' => ∃ va vc, e = .returned (.slice va (M.recL c).length vc) ∧ w'.ownsRow W.heap.size 5 1 (.slice va (M.recL c).length vc) (M.recL c).length (byCells (M.recL c)) ∧ Below W.heap.size W w' := by
  unfold caV
  obtain ⟨W1, hW1⟩ : ∃ X, X = W.alloc (.cells #[.int .i64 c.what, .int .i64 c.ses, .int .i64 c.seq, .string (byStr c.name), .int .i64 c.num, .int .i64 c.share, .slice a c.bys.length cap] 33) := ⟨_, rfl⟩
  have b1 : Below W.heap.size W W1 := by rw [hW1]; exact (Below.refl _ _).alloc (Nat.le_refl _) _
  have bx := caBx W c a cap
  rw [← hW1] at bx
  have BW : Hid (∀ w, Below W1.heap.size W1 w → Bx w W.heap.size [.int .i64 c.what, .int .i64 c.ses, .int .i64 c.seq, .string (byStr c.name), .int .i64 c.num, .int .i64 c.share, .slice a c.bys.length cap] ∧ RdB w a c.bys ∧ Below W.heap.size W w) := fun w hw => by
    have kw := b1.trans (hw.mono b1.size)
    exact ⟨bx.keep (hw.block _ bx.lt), hi.rd.below kw, kw⟩
  have z1 : Hid (W.heap.size ≤ W1.heap.size) := b1.size
  have HN := hide hi.nil
  have NB := hide hi.nb
  have SZ := hide (byStr_sizeN c.name)
  have HL := hide hl
  have I6 : Hid (M.I64 c.what ∧ M.I64 c.ses ∧ M.I64 c.seq ∧ M.I64 c.num ∧ M.I64 c.share ∧ M.I64 (c.name.length : Int)) := ⟨h6 _ (by unfold M.sixL; simp), h6 _ (by unfold M.sixL; simp), h6 _ (by unfold M.sixL; simp), h6 _ (by unfold M.sixL; simp), h6 _ (by unfold M.sixL; simp), h6 _ (by unfold M.sixL; simp)⟩
  have BL := hide (M.bys_len (M.sixL c) h6)
  have P8 : Hid (∀ x ∈ M.bodL c, x < 256) := fun x hx => by
    unfold M.bodL at hx
    rcases List.mem_append.1 hx with q | q
    · rcases List.mem_append.1 q with q | q
      · exact M.bys_byte _ x q
      · exact hi.nb x q
    · exact hi.rd.2.1 x q
  have NU : Hid (∀ (w : World) (v : Value) (P : List Nat) (n : Int), w.ownsRow W1.heap.size 5 1 v P.length (byCells P) → Below W1.heap.size W1 w → (∀ x ∈ P, x < 256) → P.length ≤ 140737488350100 → M.I64 n → Calls Tryd.prog 32 #[v, .int .i64 n] w fun e w' => ∃ v', e = .returned v' ∧ w'.ownsRow W1.heap.size 5 1 v' (P ++ M.numL n).length (byCells (P ++ M.numL n)) ∧ Below W1.heap.size W1 w' ∧ Below w.heap.size w w') := fun w v P n ho hb h8 hp hn => by
    obtain ⟨va, vc, ev, rb, rn, _⟩ := own_rdB0 rfl (by unfold maxLen; omega) h8 ho
    subst ev
    refine (rnum_any va P vc n w rb rn (by omega) hn.1 hn.2).mono ?_
    rintro e w' ⟨v', rfl, o', b'⟩
    exact ⟨v', rfl, own_lowL hb.size o', below_deep hb b' hb.size, b'⟩
  clear bx hi h6 hl b1
  have EB : Hid (M.bodL c = (((((([] ++ M.numL c.what) ++ M.numL c.ses) ++ M.numL c.seq) ++ M.numL c.num) ++ M.numL c.share) ++ M.numL (c.name.length : Int)) ++ c.name ++ c.bys) := by
    unfold Hid M.bodL M.sixL M.bysL
    simp [List.flatMap_cons]
  have N8 : Hid (∀ n : Int, ∀ x ∈ M.numL n, x < 256) := fun n => M.sev_byte _
  have N10 : Hid (∀ n : Int, M.I64 n → (M.numL n).length ≤ 10) := fun n hn => (M.num_len hn.1 hn.2).2
  go_enter Tryd.func23, Tryd.ntmps23
  go_upto_region 1 with fail
  rw [← hW1]
  clear hW1
  have O0 : Hid (W1.ownsRow W1.heap.size 5 1 (.slice none 0 0) ([] : List Nat).length (byCells [])) := World.ownsRow_nil _ _ _ _
  have K0 : Hid (Below W1.heap.size W1 W1) := Below.refl _ _
  have Q0 : Hid (∀ x ∈ ([] : List Nat), x < 256) := fun x hx => by cases hx
  have L0' : Hid (([] : List Nat).length ≤ 0) := Nat.le_refl _
  have V0 : Hid ((.slice none 0 0 : Value) = .slice none 0 0) := rfl
  have bx0 := (BW.out W1 K0.out).1
  have d0 := bx0.cell 0 _ rfl
  have C0 := hide (NU.out W1 (.slice none 0 0) ([] : List Nat) c.what O0.out K0.out Q0.out (by have := L0'.out; omega) I6.out.1)
  clear bx0
  go_upto_region 2 with (go_at_call 32; refine C0.out.mono ?_; rintro e w1 ⟨v1, rfl, o1, k1, _⟩; have O1 := hide o1; have K1 := hide k1; clear o1 k1)
  have Q1 : Hid (∀ x ∈ (([] : List Nat) ++ M.numL c.what), x < 256) := fun x hx => (List.mem_append.1 hx).elim (Q0.out x) (N8.out _ x)
  have L1' : Hid ((([] : List Nat) ++ M.numL c.what).length ≤ 10) := by
    have a := L0'.out
    have b := N10.out c.what I6.out.1
    unfold Hid
    rw [List.length_append]
    omega
  clear C0 d0 O0 K0 Q0 L0'
  have bx1 := (BW.out w1 K1.out).1
  have d1 := bx1.cell 1 _ rfl
  have C1 := hide (NU.out w1 v1 (([] : List Nat) ++ M.numL c.what) c.ses O1.out K1.out Q1.out (by have := L1'.out; omega) I6.out.2.1)
  clear bx1
  go_upto_region 3 with (go_at_call 32; refine C1.out.mono ?_; rintro e w2 ⟨v2, rfl, o2, k2, _⟩; have O2 := hide o2; have K2 := hide k2; clear o2 k2)
  have Q2 : Hid (∀ x ∈ ((([] : List Nat) ++ M.numL c.what) ++ M.numL c.ses), x < 256) := fun x hx => (List.mem_append.1 hx).elim (Q1.out x) (N8.out _ x)
  have L2' : Hid (((([] : List Nat) ++ M.numL c.what) ++ M.numL c.ses).length ≤ 20) := by
    have a := L1'.out
    have b := N10.out c.ses I6.out.2.1
    unfold Hid
    rw [List.length_append]
    omega
  clear C1 d1 O1 K1 Q1 L1'
  have bx2 := (BW.out w2 K2.out).1
  have d2 := bx2.cell 2 _ rfl
  have C2 := hide (NU.out w2 v2 ((([] : List Nat) ++ M.numL c.what) ++ M.numL c.ses) c.seq O2.out K2.out Q2.out (by have := L2'.out; omega) I6.out.2.2.1)
  clear bx2
  go_upto_region 4 with (go_at_call 32; refine C2.out.mono ?_; rintro e w3 ⟨v3, rfl, o3, k3, _⟩; have O3 := hide o3; have K3 := hide k3; clear o3 k3)
  have Q3 : Hid (∀ x ∈ (((([] : List Nat) ++ M.numL c.what) ++ M.numL c.ses) ++ M.numL c.seq), x < 256) := fun x hx => (List.mem_append.1 hx).elim (Q2.out x) (N8.out _ x)
  have L3' : Hid ((((([] : List Nat) ++ M.numL c.what) ++ M.numL c.ses) ++ M.numL c.seq).length ≤ 30) := by
    have a := L2'.out
    have b := N10.out c.seq I6.out.2.2.1
    unfold Hid
    rw [List.length_append]
    omega
  clear C2 d2 O2 K2 Q2 L2'
  have bx3 := (BW.out w3 K3.out).1
  have d3 := bx3.cell 4 _ rfl
  have C3 := hide (NU.out w3 v3 (((([] : List Nat) ++ M.numL c.what) ++ M.numL c.ses) ++ M.numL c.seq) c.num O3.out K3.out Q3.out (by have := L3'.out; omega) I6.out.2.2.2.1)
  clear bx3
  go_upto_region 5 with (go_at_call 32; refine C3.out.mono ?_; rintro e w4 ⟨v4, rfl, o4, k4, _⟩; have O4 := hide o4; have K4 := hide k4; clear o4 k4)
  have Q4 : Hid (∀ x ∈ ((((([] : List Nat) ++ M.numL c.what) ++ M.numL c.ses) ++ M.numL c.seq) ++ M.numL c.num), x < 256) := fun x hx => (List.mem_append.1 hx).elim (Q3.out x) (N8.out _ x)
  have L4' : Hid (((((([] : List Nat) ++ M.numL c.what) ++ M.numL c.ses) ++ M.numL c.seq) ++ M.numL c.num).length ≤ 40) := by
    have a := L3'.out
    have b := N10.out c.num I6.out.2.2.2.1
    unfold Hid
    rw [List.length_append]
    omega
  clear C3 d3 O3 K3 Q3 L3'
  have bx4 := (BW.out w4 K4.out).1
  have d4 := bx4.cell 5 _ rfl
  have C4 := hide (NU.out w4 v4 ((((([] : List Nat) ++ M.numL c.what) ++ M.numL c.ses) ++ M.numL c.seq) ++ M.numL c.num) c.share O4.out K4.out Q4.out (by have := L4'.out; omega) I6.out.2.2.2.2.1)
  clear bx4
  go_upto_region 6 with (go_at_call 32; refine C4.out.mono ?_; rintro e w5 ⟨v5, rfl, o5, k5, _⟩; have O5 := hide o5; have K5 := hide k5; clear o5 k5)
  have Q5 : Hid (∀ x ∈ (((((([] : List Nat) ++ M.numL c.what) ++ M.numL c.ses) ++ M.numL c.seq) ++ M.numL c.num) ++ M.numL c.share), x < 256) := fun x hx => (List.mem_append.1 hx).elim (Q4.out x) (N8.out _ x)
  have L5' : Hid ((((((([] : List Nat) ++ M.numL c.what) ++ M.numL c.ses) ++ M.numL c.seq) ++ M.numL c.num) ++ M.numL c.share).length ≤ 50) := by
    have a := L4'.out
    have b := N10.out c.share I6.out.2.2.2.2.1
    unfold Hid
    rw [List.length_append]
    omega
  clear C4 d4 O4 K4 Q4 L4'
  have bx5 := (BW.out w5 K5.out).1
  have d5 := bx5.cell 3 _ rfl
  have C5 := hide (NU.out w5 v5 (((((([] : List Nat) ++ M.numL c.what) ++ M.numL c.ses) ++ M.numL c.seq) ++ M.numL c.num) ++ M.numL c.share) (c.name.length : Int) O5.out K5.out Q5.out (by have := L5'.out; omega) I6.out.2.2.2.2.2)
  clear bx5
  have sz := SZ.out
  go_upto_region 7 with (go_at_call 32; refine C5.out.mono ?_; rintro e w6 ⟨v6, rfl, o6, k6, _⟩; have O6 := hide o6; have K6 := hide k6; clear o6 k6)
  have Q6 : Hid (∀ x ∈ ((((((([] : List Nat) ++ M.numL c.what) ++ M.numL c.ses) ++ M.numL c.seq) ++ M.numL c.num) ++ M.numL c.share) ++ M.numL (c.name.length : Int)), x < 256) := fun x hx => (List.mem_append.1 hx).elim (Q5.out x) (N8.out _ x)
  have L6' : Hid (((((((([] : List Nat) ++ M.numL c.what) ++ M.numL c.ses) ++ M.numL c.seq) ++ M.numL c.num) ++ M.numL c.share) ++ M.numL (c.name.length : Int)).length ≤ 60) := by
    have a := L5'.out
    have b := N10.out (c.name.length : Int) I6.out.2.2.2.2.2
    unfold Hid
    rw [List.length_append]
    omega
  clear C5 d5 O5 K5 Q5 L5'
  clear sz
  have NUM := NU
  obtain ⟨pn, hpn⟩ : ∃ x, x = ((((((([] : List Nat) ++ M.numL c.what) ++ M.numL c.ses) ++ M.numL c.seq) ++ M.numL c.num) ++ M.numL c.share) ++ M.numL (c.name.length : Int)).length := ⟨_, rfl⟩
  have PN := hide hpn
  have L6 := L6'.out
  rw [← hpn] at O6 L6
  have EB3 : Hid (M.bodL c = ((((((([] : List Nat) ++ M.numL c.what) ++ M.numL c.ses) ++ M.numL c.seq) ++ M.numL c.num) ++ M.numL c.share) ++ M.numL (c.name.length : Int)) ++ c.name ++ c.bys) := EB.out
  generalize ((((((([] : List Nat) ++ M.numL c.what) ++ M.numL c.ses) ++ M.numL c.seq) ++ M.numL c.num) ++ M.numL c.share) ++ M.numL (c.name.length : Int)) = PP at *
  clear hpn EB L6' Q6 N8 N10
  have bx6 := (BW.out w6 K6.out).1
  have d3 := bx6.cell 3 _ rfl
  have SC : Hid (strCells (byStr c.name) = byCells c.name) := strCells_by _ NB.out
  obtain ⟨va6, vc6, ev6⟩ : ∃ va vc, v6 = .slice va pn vc := by
    rcases O6.out.2 with ⟨hv, h0⟩ | ⟨g, cap, cur, hv, _⟩
    · exact ⟨none, 0, by rw [hv, h0]⟩
    · exact ⟨some ⟨g, 0, none⟩, cap, hv⟩
  subst ev6
  obtain ⟨i0, hi0, hz0, hz1, hz2⟩ := info_parts info8
  have J0 := hide hi0
  clear hi0 bx6
  have M1 : Hid (pn + (byStr c.name).size ≤ maxLen) := by have := HL.out; have := SZ.out; unfold Hid maxLen; omega
  have M2 : Hid (pn + (byStr c.name).size ≤ 140737488355328) := by have := HL.out; have := SZ.out; unfold Hid; omega
  go_upto_region 8 with (at_builtin; refine wpList_append_own_string _ rfl (.tmp 29) (.tmp 31) 27 9 rfl W1.heap.size 5 i0 Tryd.underlying27 Tryd.underlying9 J0.out hz0 hz1 hz2 (.slice va6 pn vc6) pn (byCells PP) rfl O6.out (byStr c.name) rfl M1.out M2.out K6.out.size ?_; intro v7 w7 ho7 hg7 _; rw [SC.out, ← byCells_app, SZ.out] at ho7; have K7 := hide ((K6.out).grown hg7 K6.out.size (fun k hk => (O6.out.lt k hk).1)); have O7 := hide ho7; clear ho7 hg7)
  obtain ⟨va7, vc7, ev7⟩ : ∃ va vc, v7 = .slice va (pn + c.name.length) vc := by
    rcases O7.out.2 with ⟨hv, h0⟩ | ⟨g, cap, cur, hv, _⟩
    · exact ⟨none, 0, by rw [hv, h0]⟩
    · exact ⟨some ⟨g, 0, none⟩, cap, hv⟩
  subst ev7
  have BI := BW.out w7 K7.out
  have d6 := BI.1.cell 6 _ rfl
  have RB7 := hide BI.2.1
  have K7z := hide K7.out.size
  clear BI O6 K6 d3 SC M1 M2 J0 hz0 hz1 hz2
  have L3 : Hid (pn + c.name.length + c.bys.length ≤ 140737488355328) := by have := HL.out; unfold Hid; omega
  have PL : Hid ((PP ++ c.name ++ c.bys).length = pn + c.name.length + c.bys.length) := by unfold Hid; rw [List.length_append, List.length_append, PN.out]
  have TOT : Hid (pn + c.name.length + c.bys.length ≤ 140737488350060) := by have := HL.out; unfold Hid; omega
  obtain ⟨n3, hn3⟩ : ∃ x, x = pn + c.name.length := ⟨_, rfl⟩
  rw [← hn3] at O7 L3 PL TOT ⊢
  obtain ⟨bn, hbn⟩ : ∃ x, x = c.bys.length := ⟨_, rfl⟩
  have BN := hide hbn
  rw [← hbn] at L3 PL TOT d6 ⊢
  clear hn3 hbn L6
  go_upto_region 9 with (at_builtin; refine wpList_append_by rfl (.tmp 33) (.tmp 35) rfl W1.heap.size (.slice va7 n3 vc7) n3 (PP ++ c.name) rfl O7.out a c.bys bn cap BN.out.symm rfl RB7.out HN.out (by rw [← BN.out]; exact L3.out) K7z.out ?_; intro va8 vc8 w8 ho8 hb8 _; have K8 := hide (K7.out.trans hb8); have O8 := hide ho8; clear ho8 hb8)
  have E8 : Hid (n3 + bn = (M.bodL c).length) := by unfold Hid; rw [EB3.out, PL.out]
  have o8 := O8.out
  rw [← EB3.out] at o8
  have tot := TOT.out
  generalize n3 + bn = n4 at *
  have e8 := E8.out
  obtain ⟨va', vc', ev, rb, rn, rl⟩ := own_rdB0 e8.symm (by unfold maxLen; omega) P8.out o8
  cases ev
  have i4 : M.I64 (n4 : Int) := ⟨by omega, by omega⟩
  have C9 := hide (NUM.out w8 (.slice none 0 0) [] (n4 : Int) (World.ownsRow_nil _ _ _ _) K8.out (fun x hx => by cases hx) (by simp) i4)
  rw [List.nil_append] at C9
  have NL : Hid ((M.numL (n4 : Int)).length ≤ 10) := (M.num_len i4.1 i4.2).2
  have RB := hide rb
  have RN := hide rn
  have FIN : Hid (M.recL c = M.numL (n4 : Int) ++ M.bodL c) := by unfold Hid M.recL; rw [e8]
  have LB : Hid ((M.numL (n4 : Int)).length + (M.bodL c).length ≤ 140737488355328) := by have := NL.out; unfold Hid; omega
  clear rb rn rl o8 e8 O8 O7 K7 RB7 K7z d6 PL L3 HN NUM NU i4 tot TOT
  generalize M.numL (n4 : Int) = Nn at *
  go_wp2_with (first
    | (go_at_call 32; refine C9.out.mono ?_; rintro e w9 ⟨v9, rfl, ho9, k9, b9⟩; have O9 := hide ho9; have K9 := hide k9; have RB9 := hide (RB.out.below b9); clear ho9 k9 b9)
    | (at_builtin; refine wpList_append_by rfl (.tmp 40) (.tmp 41) rfl W1.heap.size v9 Nn.length Nn rfl O9.out va8 (M.bodL c) n4 vc8 E8.out.symm rfl RB9.out RN.out LB.out K9.out.size ?_; intro va10 vc10 w10 ho10 hb10 _; have K10 := hide (K9.out.trans hb10); have O10 := hide ho10; clear ho10 hb10))
  go_ret
  have el : (M.recL c).length = Nn.length + n4 := by rw [FIN.out, List.length_append, E8.out]
  refine ⟨va10, vc10, by rw [el]; rfl, ?_, (BW.out w10 K10.out).2.2⟩
  rw [el, FIN.out]
  exact own_lowL z1.out O10.out
theorem M.fitN_is : ∀ (l : List M.Ca) (k n : Nat), k ≤ l.length → (M.recs (l.take k)).length ≤ n → (k = l.length ∨ n < (M.recs (l.take (k + 1))).length) → M.fitN l n = k
  | [], k, n, h, _, _ => by
    have : k = 0 := by simpa using h
    subst this; rfl
  | c :: l, 0, n, _, _, hx => by
    rcases hx with z | z
    · simp at z
    · rw [Nat.zero_add, List.take_succ_cons, List.take_zero, M.recs_one] at z
      unfold M.fitN
      rw [if_neg (by omega)]
  | c :: l, k + 1, n, h, hn, hx => by
    rw [List.take_succ_cons, M.recs_cons, List.length_append] at hn
    unfold M.fitN
    rw [if_pos (by omega), M.fitN_is l k (n - (M.recL c).length) (by simpa using h) (by omega) ?_]
    rcases hx with z | z
    · left; simpa using z
    · right
      rw [List.take_succ_cons, M.recs_cons, List.length_append] at z
      omega
theorem own_takeC {W : World} {B n m : Nat} {a : Option Addr} {c : Nat} {l : List CaC} (hm : l.length = m) (h : W.ownsRow B 33 7 (.slice a m c) m (caCs l)) (hn : n ≤ m) : W.ownsRow B 33 7 (.slice a n c) n (caCs (l.take n)) := by
  refine ⟨by rw [caCs_len, List.length_take]; congr 1; omega, ?_⟩
  rcases h.2 with ⟨hv, h0⟩ | ⟨g, cap, cur, hv, hb, hg, h1, h2, h3, h4⟩
  · cases hv
    have : n = 0 := by omega
    subst this
    exact .inl ⟨rfl, rfl⟩
  · cases hv
    refine .inr ⟨g, c, cur, rfl, hb, hg, by omega, h2, h3, ?_⟩
    have e : caCs (l.take n) = (caCs l).take (n * 7) := by
      have s := caCs_app (l.take n) (l.drop n)
      rw [List.take_append_drop] at s
      have ln : (caCs (l.take n)).length = n * 7 := by rw [caCs_len, List.length_take]; congr 1; omega
      rw [s, ← ln, List.take_left]
    rw [e, ← h4, List.take_take]
    congr 1
    omega

theorem CaIn.keepB {w w' : World} {c : M.Ca} {a : Option Addr} {cap : Nat} (h : CaIn w c a cap) (hk : c.bys ≠ [] → ∀ p, a = some p → w'.heap[p.block]? = w.heap[p.block]?) (hz : w.heap.size ≤ w'.heap.size) : CaIn w' c a cap := ⟨h.nb, h.nl, rdB_keep h.rd hk hz, h.le, h.cp, h.num, h.shr, h.nil⟩
set_option maxHeartbeats 16000000 in
set_option maxRecDepth 10000 in
theorem rl_Crash {w : World} {r : Nat} {ca : Option Addr} {cc : Nat} {al : List CaC} {ba : Option Addr} {bc : Nat} {L : M.Lg} {left : Int} (h : RL w r ca cc al ba bc L left) (keep : Int) (hk : M.I64 keep) (hc : ∀ k ∈ al, CaIn w k.1 k.2.1 k.2.2 ∧ (k.1.bys ≠ [] → ∀ p, k.2.1 = some p → p.block ≠ r ∧ p.block < w.heap.size)) :
    Calls Tryd.prog 11 #[.pointer (some ⟨r, 0, none⟩), .int .i64 keep] w fun e w' => e = .returned (.tuple #[]) ∧ RL w' r ca cc (al.take (M.crL L keep).calls.length) ba bc (M.crL L keep) (-1) ∧ StayBut (fun q => q = r) w w' := by
  have c0 := h.box.cell 0 _ rfl
  have c1 := h.box.cell 1 _ rfl
  have c3 := h.box.cell 3 _ rfl
  have lb := h.ok.len.2
  have sf := h.ok.sf
  unfold M.I64 at hk
  have H := hide h
  have HC := hide hc
  have CN : M.crN L keep = L.safe + min keep.toNat (L.bytes.length - L.safe) := rfl
  have CNH := hide CN
  clear h hc CN
  obtain ⟨bn, hbn⟩ : ∃ x, x = L.bytes.length := ⟨_, rfl⟩
  obtain ⟨sn, hsn⟩ : ∃ x, x = L.safe := ⟨_, rfl⟩
  have BN := hide hbn
  have SN := hide hsn
  replace c1 : w.cell? ⟨r, 1, none⟩ = some (.slice ba bn bc) := by rw [hbn]; exact c1
  replace c3 : w.cell? ⟨r, 3, none⟩ = some (.int .i64 (sn : Int)) := by rw [hsn]; exact c3
  rw [← hbn] at lb sf CNH
  rw [← hsn] at sf CNH
  clear hbn hsn
  go_enter Tryd.func11, Tryd.ntmps11
  go_wp2
  go_loopw [1, 4] (fun kp nn wr => ∃ j : Nat, kp = .int .i64 (keep - (j : Int)) ∧ nn = .int .i64 ((sn + j : Nat) : Int) ∧ sn + j ≤ bn ∧ (j : Int) ≤ max keep 0 ∧ Hid (wr = w)) (fun _ nn _ => bn - (intOf nn).toNat)
  case atStart => exact ⟨0, by simp, rfl, by omega, by omega, rfl⟩
  case round =>
    obtain ⟨j, rfl, rfl, hj1, hj2, EW⟩ := hrel
    have ew := EW.out
    subst ew
    by_cases hlt : sn + j < bn ∧ 0 < keep - (j : Int)
    · have g1 : decide (((sn + j : Nat) : Int) < (bn : Int)) = true := decide_eq_true (by omega)
      have g1' : decide (sn + j < bn) = true := decide_eq_true hlt.1
      have g2 : decide (0 < keep - (j : Int)) = true := decide_eq_true hlt.2
      have x1 : IntKind.i64.wrap (((sn + j : Nat) : Int) + 1) = ((sn + (j + 1) : Nat) : Int) := by rw [i64_in (by omega) (by omega)]; omega
      have x2 : IntKind.i64.wrap (keep - (j : Int) - 1) = keep - ((j + 1 : Nat) : Int) := by rw [i64_in (by omega) (by omega)]; omega
      obtain ⟨q1, q2⟩ := hlt
      obtain ⟨m, hm⟩ : ∃ x, x = sn + j := ⟨_, rfl⟩
      rw [← hm] at g1 g1' x1 ⊢
      have HM := hide hm
      obtain ⟨kk, hkk⟩ : ∃ x, x = keep - (j : Int) := ⟨_, rfl⟩
      rw [← hkk] at g2 x2 ⊢
      have HK2 : Hid (kk = keep - (j : Int) ∧ 0 < keep - (j : Int)) := ⟨hkk, q2⟩
      clear hm hkk q2
      go_wp2
      go_roundw
      case rel => exact ⟨j + 1, (by first | rfl | (congr 1; have := HK2.out; omega)), (by first | rfl | (congr 1; have := HM.out; omega)), by have := HM.out; omega, by have := HK2.out; omega, (by first | rfl | trivial)⟩
      case measure => (simp [intOf]; have := HM.out; omega)
    · have ways : (decide (((sn + j : Nat) : Int) < (bn : Int)) = false ∧ decide (sn + j < bn) = false) ∨ (decide (((sn + j : Nat) : Int) < (bn : Int)) = true ∧ decide (sn + j < bn) = true ∧ decide (0 < keep - (j : Int)) = false) := by
        simp only [decide_eq_true_iff, decide_eq_false_iff_not]; omega
      have en : sn + j = M.crN L keep := by have := CNH.out; omega
      have EN := hide en
      clear hlt en CNH
      obtain ⟨m, hm⟩ : ∃ x, x = sn + j := ⟨_, rfl⟩
      rw [← hm] at ways hj1 EN ⊢
      clear hm hj2
      generalize keep - (j : Int) = kk at *
      go_upto_region 1 with fail
      go_cut [22] from 12 to 22 (fun v wx => v = .bool false ∧ wx = wr)
      case first =>
        rcases ways with ⟨g1, g1'⟩ | ⟨g1, g1', g2⟩
        all_goals (
          go_wp2
          go_meet
          case rel => exact ⟨rfl, rfl⟩)
      case rest =>
      obtain ⟨rfl, ewr⟩ := hcut
      subst ewr
      clear ways
      -- the cells that are written
      have ok := H.out.ok
      have crok := M.cr_ok ok keep
      have cbl : (M.crL L keep).bytes.length = m := by rw [M.cr_bytes ok, List.length_take, EN.out]; have := (M.crN_le ok keep).2; omega
      have bx := H.out.box
      have z1 := bx.free 1
      have z3 := bx.free 3
      have z4 := bx.free 4
      have z5 := bx.free 5
      have c4 := bx.cell 4 _ rfl
      have c5 := bx.cell 5 _ rfl
      have y1 : (m : Int) ≤ (bc : Int) := by
        have : L.bytes.length ≤ bc := by
          rcases H.out.bo.2 with ⟨hv, h0⟩ | ⟨g, cap, cur, hv, _, _, hc1, _⟩
          · rw [h0]; exact Nat.zero_le _
          · cases hv; exact hc1
        have := BN.out
        omega
      have y2 : m ≤ bc := by omega
      obtain ⟨W8, hW8⟩ : ∃ X, X = (((wc.setCell ⟨r, 1, none⟩ (.slice ba m bc)).setCell ⟨r, 3, none⟩ (.int .i64 (m : Int))).setCell ⟨r, 4, none⟩ (.int .i64 (-1))).setCell ⟨r, 5, none⟩ (.bool false) := ⟨_, rfl⟩
      have B8 : Hid (Bx W8 r [.slice ca al.length cc, .slice ba m bc, .int .i64 (L.whole : Int), .int .i64 (m : Int), .int .i64 (-1), .bool false]) := by
        unfold Hid
        rw [hW8]
        exact (((bx.put (j := 1) (v := .slice ba m bc)).put (j := 3) (v := .int .i64 (m : Int))).put (j := 4) (v := .int .i64 (-1))).put (j := 5) (v := .bool false)
      have S8 : Hid (StayBut (fun q => q = r) wc W8) := by
        unfold Hid
        rw [hW8]
        have ss : ∀ (u : World) (j : Nat) (v : Value), StayBut (fun q => q = r) u (u.setCell ⟨r, j, none⟩ v) := fun u j v => stay_set (K := fun q => q = r) rfl
        exact (((ss _ 1 _).trans (ss _ 3 _)).trans (ss _ 4 _)).trans (ss _ 5 _)
      have ak := H.out.em
      have all : al.length = L.calls.length := by rw [← ak, List.length_map]
      have RDC : Hid (∀ V, StayBut (fun q => q = r) wc V → RdC V ca al) := fun V hV => own_rdC rfl (by have := M.recs_more L.calls ok.ok; have := ok.wh; unfold M.Lg.whole at this; unfold maxLen; omega) (fun k hk' => (HC.out k hk').1.keepB (fun hn p hp => hV.block _ ((HC.out k hk').2 hn p hp).2 ((HC.out k hk').2 hn p hp).1) hV.size) (own_stay H.out.co (fun p hp => hV.block _ (own_spot H.out.co p hp).2.1 (H.out.nc p hp)))
      have RC : Hid (∀ V k (hk' : k < al.length), StayBut (fun q => q = r) wc V → Calls Tryd.prog 23 #[caV (al.getD k ca0).1 (al.getD k ca0).2.1 (al.getD k ca0).2.2] V fun e w' => (∃ va vc, e = .returned (.slice va (M.recL (al.getD k ca0).1).length vc)) ∧ Below V.heap.size V w') := fun V k hk' hV => by
        obtain ⟨_, _, _, _, _, ci⟩ := (RDC.out V hV).at hk'
        have eg : (al.getD k ca0).1 = L.calls[k]'(by omega) := by
          have h2 : al.getD k ca0 = al[k] := by simp [List.getD, hk']
          rw [h2]
          have := congrArg (fun z => z[k]?) ak
          simp only [List.getElem?_map] at this
          rw [List.getElem?_eq_getElem hk', List.getElem?_eq_getElem (by omega : k < L.calls.length)] at this
          simpa using this
        have okc : M.CaOk (al.getD k ca0).1 := by rw [eg]; exact ok.ok _ (List.getElem_mem _)
        refine (rl_record _ _ _ V ci okc.i64 (by have := okc.nl; have := okc.bl; omega)).mono ?_
        rintro e w' ⟨va, vc, rfl, _, b⟩
        exact ⟨⟨va, vc, rfl⟩, b⟩
      have GC : Hid (∀ k, k < al.length → (M.recs (L.calls.take (k + 1))).length = (M.recs (L.calls.take k)).length + (M.recL (al.getD k ca0).1).length) := fun k hk' => by
        have eg : (al.getD k ca0).1 = L.calls[k]'(by omega) := by
          have h2 : al.getD k ca0 = al[k] := by simp [List.getD, hk']
          rw [h2]
          have := congrArg (fun z => z[k]?) ak
          simp only [List.getElem?_map] at this
          rw [List.getElem?_eq_getElem hk', List.getElem?_eq_getElem (by omega : k < L.calls.length)] at this
          simpa using this
        rw [eg, List.take_succ_eq_append_getElem (by omega : k < L.calls.length), M.recs_app, M.recs_one, List.length_append]
      have RLN : Hid (∀ k, k < al.length → (M.recL (al.getD k ca0).1).length ≤ 6170) := fun k hk' => by
        have a := GC.out k hk'
        have eg : (al.getD k ca0).1 ∈ L.calls := by
          rw [← ak]
          exact List.mem_map.2 ⟨al.getD k ca0, by rw [List.getD, List.getElem?_eq_getElem hk']; exact List.getElem_mem hk', rfl⟩
        exact (ok.ok _ eg).rec_le.2
      have DONE : Hid (∀ (V : World) (k : Nat), Below W8.heap.size W8 V → k ≤ al.length → (M.recs (L.calls.take k)).length ≤ m → (k = al.length ∨ m < (M.recs (L.calls.take (k + 1))).length) → RL ((V.setCell ⟨r, 0, none⟩ (.slice ca k cc)).setCell ⟨r, 2, none⟩ (.int .i64 ((M.recs (L.calls.take k)).length : Int))) r ca cc (al.take (M.crL L keep).calls.length) ba bc (M.crL L keep) (-1) ∧ StayBut (fun q => q = r) wc ((V.setCell ⟨r, 0, none⟩ (.slice ca k cc)).setCell ⟨r, 2, none⟩ (.int .i64 ((M.recs (L.calls.take k)).length : Int)))) := fun V k hV hk1 hk2 hk3 => by
        have fi : M.fitN L.calls m = k := M.fitN_is L.calls k m (by omega) hk2 (by rw [← all]; exact hk3)
        have ec : (M.crL L keep).calls = L.calls.take k := by rw [M.cr_calls, ← EN.out, fi]
        have el : (M.crL L keep).calls.length = k := by rw [ec, List.length_take]; omega
        have sV : StayBut (fun q => q = r) wc V := S8.out.trans (stay_of hV (Nat.le_refl _))
        have ss : ∀ (u : World) (j : Nat) (v : Value), StayBut (fun q => q = r) u (u.setCell ⟨r, j, none⟩ v) := fun u j v => stay_set (K := fun q => q = r) rfl
        have bV := B8.out.keep (hV.block _ B8.out.lt)
        have sT := sV.trans ((ss V 0 (.slice ca k cc)).trans (ss _ 2 (.int .i64 ((M.recs (L.calls.take k)).length : Int))))
        refine ⟨⟨crok, ⟨⟨by decide, by decide⟩, fun _ => .inl ⟨by show (-1 : Int) < 0; decide, rfl⟩⟩, ?_, ?_, ?_, ?_, H.out.nc, H.out.nb, H.out.nn⟩, sT⟩
        · rw [el, ec, ← ak, List.map_take]
        · have tl : (al.take (M.crL L keep).calls.length).length = k := by rw [el, List.length_take]; omega
          rw [tl]
          have := (bV.put (j := 0) (v := .slice ca k cc)).put (j := 2) (v := .int .i64 ((M.recs (L.calls.take k)).length : Int))
          have e : rlL ca cc k ba bc (M.crL L keep) (-1) = [.slice ca k cc, .slice ba m bc, .int .i64 ((M.recs (L.calls.take k)).length : Int), .int .i64 (m : Int), .int .i64 (-1), .bool false] := by
            unfold rlL
            rw [cbl]
            have w1 : (M.crL L keep).whole = (M.recs (L.calls.take k)).length := by unfold M.Lg.whole; rw [ec]
            have w2 : (M.crL L keep).safe = m := by rw [M.cr_safe ok, ← EN.out]
            rw [w1, w2]
            rfl
          rw [e]
          exact this
        · have tl : (al.take (M.crL L keep).calls.length).length = k := by rw [el, List.length_take]; omega
          rw [tl, el]
          exact own_stay (own_takeC rfl H.out.co hk1) (fun p hp => sT.block _ (own_spot H.out.co p hp).2.1 (H.out.nc p hp))
        · rw [cbl]
          have eb : (M.crL L keep).bytes = L.bytes.take m := by rw [M.cr_bytes ok, ← EN.out]
          rw [eb]
          exact own_stay (own_take rfl H.out.bo (by have := BN.out; omega)) (fun p hp => sT.block _ (own_spot H.out.bo p hp).2.1 (H.out.nb p hp))
      have SB : Hid (∀ V, Below W8.heap.size W8 V → StayBut (fun q => q = r) wc V ∧ V.cell? ⟨r, 0, none⟩ = some (.slice ca al.length cc) ∧ V.frozen? ⟨r, 0, none⟩ = false ∧ (∃ u, V.cell? ⟨r, 2, none⟩ = some u) ∧ V.frozen? ⟨r, 2, none⟩ = false) := fun V hV => by
        have bV := B8.out.keep (hV.block _ B8.out.lt)
        exact ⟨S8.out.trans (stay_of hV (Nat.le_refl _)), bV.cell 0 _ rfl, bV.free 0, ⟨_, bV.cell 2 _ rfl⟩, bV.free 2⟩
      have CC' : Hid (al.length ≤ cc) := by
        rcases H.out.co.2 with ⟨hv, h0⟩ | ⟨g, cap, cur, hv, _, _, hc1, _⟩
        · unfold Hid; rw [h0]; exact Nat.zero_le _
        · cases hv; exact hc1
      have aln : al.length ≤ 100000 := by have := M.recs_more L.calls ok.ok; have := ok.wh; unfold M.Lg.whole at this; omega
      have w8z : Hid (Below W8.heap.size W8 W8) := Below.refl _ _
      have mb : m ≤ 106170 := by omega
      clear B8 ok crok cbl bx all ak HC EN BN SN H hj1
      go_upto_region 8 with fail
      rw [← hW8]
      clear hW8 c0 c1 c3 c4 c5 z1 z3 z4 z5
      go_wp2
      go_loopw [5, 6, 7] (fun at' kv _ wr => ∃ k : Nat, k ≤ al.length ∧ kv = .int .i64 (k : Int) ∧ at' = .int .i64 ((M.recs (L.calls.take k)).length : Int) ∧ (M.recs (L.calls.take k)).length ≤ m ∧ Hid (Below W8.heap.size W8 wr)) (fun _ kv _ _ => al.length - (intOf kv).toNat)
      case atStart => exact ⟨0, Nat.zero_le _, rfl, rfl, Nat.zero_le _, w8z⟩
      case round =>
        clear w8z
        obtain ⟨k, hk1, rfl, rfl, hk2, KK⟩ := hrel
        obtain ⟨sV, v0, zv0, ⟨u2, v2⟩, zv2⟩ := SB.out _ KK.out
        by_cases hlt : k < al.length
        · have g1 : decide ((k : Int) < (al.length : Int)) = true := decide_eq_true (by omega)
          have g1' : decide (k < al.length) = true := decide_eq_true hlt
          have kz : (k : Int) < (al.length : Int) := by omega
          obtain ⟨b9, o9, rfl, _, sv, _⟩ := (RDC.out _ sV).at hlt
          obtain ⟨p0, p1, p2, p3, p4, p5, p6⟩ := sv
          have R1 := hide (RC.out _ k hlt sV)
          unfold caV at R1
          have gc := GC.out k hlt
          have rln := RLN.out k hlt
          have DN := hide (fun V (hV : Below W8.heap.size W8 V) => DONE.out V k hV hk1 hk2)
          have GCH := hide gc
          clear RC GC RLN DONE RDC
          obtain ⟨at0, hat⟩ : ∃ x, x = (M.recs (L.calls.take k)).length := ⟨_, rfl⟩
          rw [← hat] at gc hk2 DN GCH ⊢
          have HAT := hide hat
          clear hat
          generalize al.getD k ca0 = ck at *
          obtain ⟨rn, hrn⟩ : ∃ x, x = (M.recL ck.1).length := ⟨_, rfl⟩
          rw [← hrn] at gc rln R1 GCH
          clear hrn
          have wr1 : IntKind.i64.wrap ((at0 : Int) + (rn : Int)) = (at0 : Int) + (rn : Int) := i64_in (by omega) (by omega)
          have wr2 : IntKind.i64.wrap ((k : Int) + 1) = (k : Int) + 1 := i64_in (by omega) (by omega)
          by_cases big : m < at0 + rn
          · have g2 : decide ((m : Int) < (at0 : Int) + (rn : Int)) = true := decide_eq_true (by omega)
            have FI := hide (fun V (hV : Below W8.heap.size W8 V) => DN.out V hV (.inr (by rw [gc]; exact big)))
            have yk : (k : Int) ≤ (cc : Int) := by have := CC'.out; omega
            have yk' : k ≤ cc := by have := CC'.out; omega
            clear DN gc big
            go_upto_region 12 with (go_at_call 23; refine R1.out.mono ?_; rintro e w1 ⟨⟨va, vc, rfl⟩, b1⟩; have K1 := hide (below_on KK.out b1); clear b1)
            clear p0 p1 p2 p3 p4 p5 p6 v0 zv0 v2 zv2 R1
            obtain ⟨_, v0, zv0, ⟨u2', v2⟩, zv2⟩ := SB.out _ K1.out
            obtain ⟨f1, f2⟩ := FI.out w1 K1.out
            have F1 := hide f1
            have F2 := hide f2
            clear f1 f2 FI SB
            go_wp2
            go_end0
            exact ⟨rfl, F1.out, F2.out⟩
          · have g2 : decide ((m : Int) < (at0 : Int) + (rn : Int)) = false := decide_eq_false (by omega)
            clear DN
            go_wp2_with (go_at_call 23; refine R1.out.mono ?_; rintro e w1 ⟨⟨va, vc, rfl⟩, b1⟩; have K1 := hide (below_on KK.out b1); clear b1)
            go_roundw
            case rel => exact ⟨k + 1, by omega, by go_num, by rw [GCH.out]; rfl, by rw [GCH.out]; omega, K1⟩
            case measure => simp [intOf]; omega
        · have ek : k = al.length := by omega
          have g1 : decide ((k : Int) < (al.length : Int)) = false := decide_eq_false (by omega)
          have g1' : decide (k < al.length) = false := decide_eq_false hlt
          obtain ⟨f1, f2⟩ := DONE.out _ k KK.out hk1 hk2 (.inl ek)
          have F1 := hide f1
          have F2 := hide f2
          have yk : (k : Int) ≤ (cc : Int) := by have := CC'.out; omega
          have yk' : k ≤ cc := by have := CC'.out; omega
          clear f1 f2 DONE SB RC GC RLN RDC hlt ek
          generalize (M.recs (L.calls.take k)).length = at0 at *
          go_wp2
          go_end0
          exact ⟨rfl, F1.out, F2.out⟩
/-- its blocks -/
def RBk (r : Nat) (ca ba : Option Addr) (q : Nat) : Prop := q = r ∨ (∃ p, ca = some p ∧ p.block = q) ∨ ∃ p, ba = some p ∧ p.block = q
theorem RL.lt {w : World} {r : Nat} {ca : Option Addr} {cc : Nat} {al : List CaC} {ba : Option Addr} {bc : Nat} {L : M.Lg} {left : Int} (h : RL w r ca cc al ba bc L left) {q : Nat} (hq : RBk r ca ba q) : q < w.heap.size := by
  rcases hq with e | ⟨p, e1, e2⟩ | ⟨p, e1, e2⟩
  · subst e; exact h.box.lt
  · rw [← e2]; exact (own_spot h.co p e1).2.1
  · rw [← e2]; exact (own_spot h.bo p e1).2.1
theorem RL.up {w w' : World} {r : Nat} {ca : Option Addr} {cc : Nat} {al : List CaC} {ba : Option Addr} {bc : Nat} {L : M.Lg} {left : Int} (h : RL w r ca cc al ba bc L left) (hk : ∀ q, RBk r ca ba q → w'.heap[q]? = w.heap[q]?) : RL w' r ca cc al ba bc L left :=
  ⟨h.ok, h.lr, h.em, h.box.keep (hk r (.inl rfl)), own_stay h.co (fun p hp => hk _ (.inr (.inl ⟨p, hp, rfl⟩))), own_stay h.bo (fun p hp => hk _ (.inr (.inr ⟨p, hp, rfl⟩))), h.nc, h.nb, h.nn⟩
theorem RL.below {w w' : World} {r : Nat} {ca : Option Addr} {cc : Nat} {al : List CaC} {ba : Option Addr} {bc : Nat} {L : M.Lg} {left : Int} (h : RL w r ca cc al ba bc L left) (hb : Below w.heap.size w w') : RL w' r ca cc al ba bc L left := h.up (fun q hq => hb.block q (h.lt hq))
/-- what a method leaves of it -/
def LeftR (w : World) (r : Nat) (ca ba : Option Addr) (al' : List CaC) (L' : M.Lg) (w' : World) : Prop := ∃ ca' cc' ba' bc' left', RL w' r ca' cc' al' ba' bc' L' left' ∧ StayBut (RBk r ca ba) w w' ∧ ∀ q, RBk r ca' ba' q → RBk r ca ba q ∨ w.heap.size ≤ q
theorem RL.leave {w w' : World} {r : Nat} {ca : Option Addr} {cc : Nat} {al : List CaC} {ba : Option Addr} {bc : Nat} {L : M.Lg} {left : Int} (h : RL w r ca cc al ba bc L left) (hb : Below w.heap.size w w') : LeftR w r ca ba al L w' :=
  ⟨ca, cc, ba, bc, left, h.below hb, stay_of hb (Nat.le_refl _), fun q hq => .inl hq⟩
theorem rng_ways {c : M.Ca} (h : M.rngF c = false) : decide (c.what < 1) = true ∨ (decide (c.what < 1) = false ∧ decide (4 < c.what) = true) ∨ (decide (c.what < 1) = false ∧ decide (4 < c.what) = false ∧ M.timeB c.ses = false) ∨ (decide (c.what < 1) = false ∧ decide (4 < c.what) = false ∧ M.timeB c.ses = true ∧ M.timeB c.seq = false) ∨ (decide (c.what < 1) = false ∧ decide (4 < c.what) = false ∧ M.timeB c.ses = true ∧ M.timeB c.seq = true ∧ M.timeB c.num = false) ∨ (decide (c.what < 1) = false ∧ decide (4 < c.what) = false ∧ M.timeB c.ses = true ∧ M.timeB c.seq = true ∧ M.timeB c.num = true ∧ M.timeB c.share = false) := by
  by_cases a : c.what < 1
  · exact .inl (decide_eq_true a)
  · have a' := decide_eq_false a
    by_cases b : 4 < c.what
    · exact .inr (.inl ⟨a', decide_eq_true b⟩)
    · have b' := decide_eq_false b
      unfold M.rngF at h
      rw [decide_eq_true (by omega : 1 ≤ c.what), decide_eq_true (by omega : c.what ≤ 4)] at h
      cases h1 : M.timeB c.ses with
      | false => exact .inr (.inr (.inl ⟨a', b', rfl⟩))
      | true =>
        cases h2 : M.timeB c.seq with
        | false => exact .inr (.inr (.inr (.inl ⟨a', b', rfl, rfl⟩)))
        | true =>
          cases h3 : M.timeB c.num with
          | false => exact .inr (.inr (.inr (.inr (.inl ⟨a', b', rfl, rfl, rfl⟩))))
          | true =>
            rw [h1, h2, h3] at h
            exact .inr (.inr (.inr (.inr (.inr ⟨a', b', rfl, rfl, rfl, by simpa using h⟩))))

set_option maxHeartbeats 16000000 in
set_option maxRecDepth 10000 in
theorem rl_Append_one {w : World} {r : Nat} {ca : Option Addr} {cc : Nat} {al : List CaC} {ba : Option Addr} {bc : Nat} {L : M.Lg} {left : Int} (h : RL w r ca cc al ba bc L left) {c : M.Ca} {a : Option Addr} {cap : Nat} (hr : M.rngF c = false) :
    Calls Tryd.prog 7 #[.pointer (some ⟨r, 0, none⟩), caV c a cap] w fun e w' => e = .returned (.int .i64 (M.apF L c)) ∧ LeftR w r ca ba al (M.apL L c) w' := by
  have AF : M.apF L c = 1 := by unfold M.apF; rw [if_pos hr]
  rw [AF, M.ap_same (.inl AF)]
  have FIN := hide (fun w' (hb : Below w.heap.size w w') => h.leave hb)
  unfold caV
  obtain ⟨W1, hW1⟩ : ∃ X, X = w.alloc (.cells #[.int .i64 c.what, .int .i64 c.ses, .int .i64 c.seq, .string (byStr c.name), .int .i64 c.num, .int .i64 c.share, .slice a c.bys.length cap] 33) := ⟨_, rfl⟩
  have b1 : Hid (Below w.heap.size w W1) := by unfold Hid; rw [hW1]; exact (Below.refl _ _).alloc (Nat.le_refl _) _
  have bx := caBx w c a cap
  rw [← hW1] at bx
  have c0 := bx.cell 0 _ rfl
  have c1 := bx.cell 1 _ rfl
  have c2 := bx.cell 2 _ rfl
  have c4 := bx.cell 4 _ rfl
  have c5 := bx.cell 5 _ rfl
  have T1 := hide (rl_time c.ses W1)
  have T2 := hide (rl_time c.seq W1)
  have T3 := hide (rl_time c.num W1)
  have T4 := hide (rl_time c.share W1)
  have ways := rng_ways hr
  clear bx h AF hr
  generalize c.what = x0 at *
  generalize M.timeB c.ses = y1 at *
  generalize M.timeB c.seq = y2 at *
  generalize M.timeB c.num = y4 at *
  generalize M.timeB c.share = y5 at *
  generalize c.ses = x1 at *
  generalize c.seq = x2 at *
  generalize c.num = x4 at *
  generalize c.share = x5 at *
  go_enter Tryd.func7, Tryd.ntmps7
  go_upto_region 1 with fail
  rw [← hW1]
  clear hW1
  go_upto_region 2 with (go_at_call 22; refine T1.out.mono ?_; rintro e w2 ⟨rfl, ew⟩; have ew2 := ew.symm; subst ew2)
  go_upto_region 3 with (go_at_call 22; refine T2.out.mono ?_; rintro e w2 ⟨rfl, ew⟩; have ew2 := ew.symm; subst ew2)
  go_upto_region 4 with (go_at_call 22; refine T3.out.mono ?_; rintro e w2 ⟨rfl, ew⟩; have ew2 := ew.symm; subst ew2)
  go_upto_region 5 with (go_at_call 22; refine T4.out.mono ?_; rintro e w2 ⟨rfl, ew⟩; have ew2 := ew.symm; subst ew2)
  clear T1 T2 T3 T4
  rcases ways with g1 | ⟨g1, g2⟩ | ⟨g1, g2, rfl⟩ | ⟨g1, g2, rfl, rfl⟩ | ⟨g1, g2, rfl, rfl, rfl⟩ | ⟨g1, g2, rfl, rfl, rfl, rfl⟩
  all_goals (
    go_wp2
    go_ret
    exact ⟨rfl, FIN.out _ b1.out⟩)
end Go.Proofs.YtjjfmepinpmkfaaDoor
