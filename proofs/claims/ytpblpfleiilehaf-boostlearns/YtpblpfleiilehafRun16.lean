/-
  Several texts as one: GroBest, SortOwn, GroCuts, GroC.
-/
import Derived.Test.YtpblpfleiilehafRun15
import Derived.Test.YtpblpfleiilehafRun14
import Derived.Test.YtpblpfleiilehafRun0
import Derived.Test.YtpblpfleiilehafShelf
import Derived.Sort.OwnSortedInts
import Derived.Test.YtpblpfleiilehafRun7
namespace Go.Proofs.Ytpblpfleiilehaf
open Go.ChangeShapes Go.WideShapes Go.ChangeAt Go.RowKit Go.Lib
set_option linter.unusedVariables false

def GCutsGives : Prop := ∀ (a : Option Addr) (xs : List Sx) (ca m f : Nat) (w : World), RdL w a xs → Ask xs m → f < m → 0 < xs.length → Calls Try.prog 58 #[.slice a xs.length ca, .int .i64 (f : Nat)] w fun e w' => ∃ ag cg, e = .returned (.slice ag (M.cutP (sms xs) f).length cg) ∧ Rd w' ag (M.cutP (sms xs) f) ∧ Below w.heap.size w w' ∧ (∀ p, ag = some p → w.heap.size ≤ p.block)

/-- the best question so far, and what it puts right, in two blocks -/
structure Bq (w W : World) (b6 b8 : Nat) (st : M.SpS) : Prop where
  c0 : W.cell? ⟨b6, 0, none⟩ = some (.int .i64 (st.2.2.1 : Nat))
  c1 : W.cell? ⟨b6, 1, none⟩ = some (.int .i64 st.2.2.2.1)
  c2 : W.cell? ⟨b8, 0, none⟩ = some (.int .i64 st.1)
  c3 : W.cell? ⟨b8, 1, none⟩ = some (.int .i64 st.2.1)
  f6 : ∀ j, W.frozen? ⟨b6, j, none⟩ = false
  f8 : ∀ j, W.frozen? ⟨b8, j, none⟩ = false
  ne : b6 ≠ b8
  l6 : w.heap.size ≤ b6 ∧ b6 < W.heap.size
  l8 : w.heap.size ≤ b8 ∧ b8 < W.heap.size
  b : Below w.heap.size w W
theorem frozen_kept {W W' : World} {p : Nat} (hb : Below W.heap.size W W') (hp : p < W.heap.size) (j : Nat) : W'.frozen? ⟨p, j, none⟩ = W.frozen? ⟨p, j, none⟩ := by
  unfold World.frozen?
  rw [hb.block _ hp]
theorem Bq.up {w W W' : World} {b6 b8 : Nat} {st : M.SpS} (h : Bq w W b6 b8 st) (hb : Below W.heap.size W W') : Bq w W' b6 b8 st :=
  ⟨(hb.cell (p := ⟨b6, 0, none⟩) h.l6.2).trans h.c0, (hb.cell (p := ⟨b6, 1, none⟩) h.l6.2).trans h.c1, (hb.cell (p := ⟨b8, 0, none⟩) h.l8.2).trans h.c2, (hb.cell (p := ⟨b8, 1, none⟩) h.l8.2).trans h.c3, fun j => (frozen_kept hb h.l6.2 j).trans (h.f6 j), fun j => (frozen_kept hb h.l8.2 j).trans (h.f8 j), h.ne, ⟨h.l6.1, Nat.lt_of_lt_of_le h.l6.2 hb.size⟩, ⟨h.l8.1, Nat.lt_of_lt_of_le h.l8.2 hb.size⟩, below_on h.b hb⟩
theorem frozen_set (W : World) (p q o j : Nat) (x : Value) : (W.setCell ⟨p, o, none⟩ x).frozen? ⟨q, j, none⟩ = W.frozen? ⟨q, j, none⟩ := by
  simp [World.frozen?, World.setCell, Array.getElem?_modify]
  by_cases e : p = q
  · subst e
    cases h : W.heap[p]? with
    | none => simp
    | some o => cases o <;> simp
  · simp [e]
theorem Bq.put {w W : World} {b6 b8 : Nat} {st : M.SpS} (h : Bq w W b6 b8 st) (st' : M.SpS) : Bq w ((((W.setCell ⟨b6, 0, none⟩ (.int .i64 (st'.2.2.1 : Nat))).setCell ⟨b6, 1, none⟩ (.int .i64 st'.2.2.2.1)).setCell ⟨b8, 0, none⟩ (.int .i64 st'.1)).setCell ⟨b8, 1, none⟩ (.int .i64 st'.2.1)) b6 b8 st' := by
  have ne := h.ne
  have o : ∀ (V : World) (p q i j : Nat) (v : Value), p ≠ q ∨ i ≠ j → (V.setCell ⟨p, i, none⟩ v).cell? ⟨q, j, none⟩ = V.cell? ⟨q, j, none⟩ := fun V p q i j v hij => World.cell?_setCell_other _ _ _ _ (by intro e; cases e; rcases hij with x | x <;> exact x rfl)
  have s1 := set2 (x0 := .int .i64 (st'.2.2.1 : Nat)) (x1 := .int .i64 st'.2.2.2.1) h.c0 h.c1
  refine ⟨?_, ?_, ?_, ?_, fun j => ?_, fun j => ?_, ne, ⟨h.l6.1, by simpa using h.l6.2⟩, ⟨h.l8.1, by simpa using h.l8.2⟩, below2 (below2 h.b h.l6.1) h.l8.1⟩
  · rw [o _ _ _ _ _ _ (.inl ne.symm), o _ _ _ _ _ _ (.inl ne.symm), o _ _ _ _ _ _ (.inr (by decide))]; exact s1.1
  · rw [o _ _ _ _ _ _ (.inl ne.symm), o _ _ _ _ _ _ (.inl ne.symm)]; exact s1.2
  · rw [o _ _ _ _ _ _ (.inr (by decide))]
    exact World.cell?_setCell_same (u := .int .i64 st.1) _ _ _ (by rw [o _ _ _ _ _ _ (.inl ne), o _ _ _ _ _ _ (.inl ne)]; exact h.c2)
  · exact World.cell?_setCell_same (u := .int .i64 st.2.1) _ _ _ (by rw [o _ _ _ _ _ _ (.inr (by decide)), o _ _ _ _ _ _ (.inl ne), o _ _ _ _ _ _ (.inl ne)]; exact h.c3)
  · rw [frozen_set, frozen_set, frozen_set, frozen_set]; exact h.f6 j
  · rw [frozen_set, frozen_set, frozen_set, frozen_set]; exact h.f8 j
theorem Bq.is {w W : World} {b6 b8 : Nat} {st st' : M.SpS} (h : Bq w W b6 b8 st) (e : st = st') : Bq w W b6 b8 st' := e ▸ h

theorem compact_le (l : List Int) : (Lib.compact l).length ≤ l.length := by
  unfold Lib.compact Lib.compactUpTo
  rw [List.length_map]
  exact Nat.le_trans (List.length_filter_le _ _) (by simp)

/-- what may be: how great the best so far is -/
theorem Ask.bq {xs : List Sx} {m : Nat} (h : Ask xs m) (least : Int) (st : M.SpS) (f : Nat) (c : Int) (hs : StIn st) : StIn (M.bqN (sms xs) least st f c) := by
  unfold M.bqN
  split
  · exact hs
  · split
    · exact h.ud f c
    · exact hs
theorem Ask.bqI {xs : List Sx} {m : Nat} (h : Ask xs m) (least : Int) (F f : Nat) (cs : List Int) : StIn (M.bqI (sms xs) least f (M.bqA (sms xs) least F) cs) :=
  M.bqI_in StIn (fun st f c hs => h.bq least st f c hs) f cs _ (M.bqA_in StIn (h.st least) (fun st f c hs => h.bq least st f c hs) F)
theorem M.bqN_few {l : List M.Sa} {least : Int} {st : M.SpS} {f : Nat} {c : Int} (h : M.nB l f c true < least ∨ M.nB l f c false < least) : M.bqN l least st f c = st := by unfold M.bqN; rw [if_pos h]
theorem M.bqN_yes {l : List M.Sa} {least : Int} {st : M.SpS} {f : Nat} {c : Int} (h : ¬ (M.nB l f c true < least ∨ M.nB l f c false < least)) (h2 : st.1 * M.spD l f c < M.spU l f c * st.2.1) : M.bqN l least st f c = (M.spU l f c, M.spD l f c, f, c, true) := by unfold M.bqN; rw [if_neg h, if_pos h2]
theorem M.bqN_no {l : List M.Sa} {least : Int} {st : M.SpS} {f : Nat} {c : Int} (h : ¬ (M.nB l f c true < least ∨ M.nB l f c false < least)) (h2 : ¬ st.1 * M.spD l f c < M.spU l f c * st.2.1) : M.bqN l least st f c = st := by unfold M.bqN; rw [if_neg h, if_neg h2]

set_option maxHeartbeats 16000000 in
set_option maxRecDepth 10000 in
theorem best_any (GC : GCutsGives) (a : Option Addr) (xs : List Sx) (ca m : Nat) (least : Int) (w : World) (h : RdL w a xs) (A : Ask xs m) (m8 : m ≤ 8) (hp : 0 < xs.length) (h1 : 1 ≤ least) :
    Calls Try.prog 32 #[.slice a xs.length ca, .int .i64 (m : Nat), .int .i64 least] w fun e w' => e = .returned (.tuple #[.agg #[.int .i64 ((M.spV (sms xs) m least).2.2.1 : Nat), .int .i64 (M.spV (sms xs) m least).2.2.2.1], .bool (M.spV (sms xs) m least).2.2.2.2]) ∧ Below w.heap.size w w' := by
  have BI := M.bq_is (l := sms xs) h1 (by rw [sms_len]; exact hp) m
  rw [← BI]
  have HL := hide h
  have AA := hide A
  have l60 := A.le
  have GCC := hide (fun f (hf : f < m) W (hW : Below w.heap.size w W) => GC a xs ca m f W (h.below hW) A hf hp)
  have PPC := hide (fun f (hf : f < m) c W (hW : Below w.heap.size w W) => part_any a xs ca m f c W (h.below hW) A hf)
  have RR := hide (fun (pa : Option Addr) f c b (cap : Nat) W (hW : RdL W pa (partX xs f c b)) => putright_any pa (partX xs f c b) cap m W hW (A.part f c b))
  have R0 := hide (fun W (hW : Below w.heap.size w W) => putright_any a xs ca m W (h.below hW) A)
  obtain ⟨w1, hw1⟩ : ∃ W, W = w.alloc (.cells #[.int .i64 0, .int .i64 0] 72) := ⟨_, rfl⟩
  have s1 : w1.heap.size = w.heap.size + 1 := by rw [hw1]; simp
  have K1 : Hid (Below w.heap.size w w1) := by unfold Hid; rw [hw1]; exact (Below.refl _ w).alloc (Nat.le_refl _) _
  have N1 := hide (fun W (hW : Below w1.heap.size w1 W) => new_kept hw1 hW)
  have S1 := hide s1
  have HW := hide hw1
  have SL := hide (sms_len xs)
  have EV : Hid (∀ st, M.bqA (sms xs) least m = st → M.bqA (sms xs) least m = st) := fun _ e => e
  clear h A hw1 s1 BI GC
  obtain ⟨V, hV⟩ : ∃ V, V = M.bqA (sms xs) least m := ⟨_, rfl⟩
  rw [← hV]
  have HV := hide hV
  clear hV EV
  go_enter Try.func32, Try.ntmps32
  go_upto_region 1 with fail
  rw [← HW.out]
  go_upto_region 2 with (go_at_call 57; refine (R0.out _ K1.out).mono ?_; rintro e w2 ⟨rfl, hb2⟩; have K2 := hide hb2; clear hb2)
  obtain ⟨w3, hw3⟩ : ∃ W, W = w2.alloc (.cells #[.int .i64 (M.sumT (sms xs) * M.sumT (sms xs)), .int .i64 (xs.length : Nat)] 98) := ⟨_, rfl⟩
  rw [← hw3]
  have K3 : Hid (Below w2.heap.size w2 w3) := by unfold Hid; rw [hw3]; exact (Below.refl _ w2).alloc (Nat.le_refl _) _
  have Q3 : Hid (Bq w w3 w.heap.size w2.heap.size (M.bqA (sms xs) least 0)) := by
    have k13 := below_on K2.out K3.out
    have n1 := N1.out w3 k13
    have n3 := new_kept hw3 (Below.refl w3.heap.size w3)
    have z := K2.out.size
    have z1 := S1.out
    have z3 : w3.heap.size = w2.heap.size + 1 := by rw [hw3]; simp
    have e : M.bqA (sms xs) least 0 = (M.sumT (sms xs) * M.sumT (sms xs), (((sms xs).length : Nat) : Int), 0, 0, false) := rfl
    rw [e, SL.out]
    exact ⟨n1.1 0 _ rfl, n1.1 1 _ rfl, n3.1 0 _ rfl, n3.1 1 _ rfl, n1.2, n3.2, by omega, ⟨Nat.le_refl _, by omega⟩, ⟨by omega, by omega⟩, below_on K1.out k13⟩
  have Z0 : Hid (((M.bqA (sms xs) least 0).2.2.2.2 : Bool) = false) := rfl
  obtain ⟨b8, hb8⟩ : ∃ b, b = w2.heap.size := ⟨_, rfl⟩
  rw [← hb8] at Q3 ⊢
  obtain ⟨b6, hb6⟩ : ∃ b, b = w.heap.size := ⟨_, rfl⟩
  rw [← hb6] at Q3
  rw [← hb6]
  clear hw3 hb8 N1 HW S1 K1 K2 K3 R0 hb6
  go_wp2
  go_loopw [7, 19] (fun v i wr => ∃ f : Nat, f ≤ m ∧ i = .int .i64 f ∧ v = .bool (M.bqA (sms xs) least f).2.2.2.2 ∧ Hid (Bq w wr b6 b8 (M.bqA (sms xs) least f))) (fun _ i _ => m - (intOf i).toNat)
  case atStart => exact ⟨0, Nat.zero_le _, rfl, rfl, Q3⟩
  case round =>
    obtain ⟨f, hf, rfl, rfl, Q⟩ := hrel
    clear Q3 Z0
    by_cases hlt : f < m
    · have CC := hide (GCC.out f hlt wr Q.out.b)
      have PC := hide (PPC.out f hlt)
      have fz : (f : Int) < (m : Int) := by omega
      have BS : Hid (M.bqA (sms xs) least (f + 1) = M.bqI (sms xs) least f (M.bqA (sms xs) least f) (M.cutP (sms xs) f)) := rfl
      have SI : Hid (∀ cs, StIn (M.bqI (sms xs) least f (M.bqA (sms xs) least f) cs)) := fun cs => AA.out.bqI least f f cs
      have BT : Hid (∀ k, k < (M.cutP (sms xs) f).length → M.bqI (sms xs) least f (M.bqA (sms xs) least f) ((M.cutP (sms xs) f).take (k + 1)) = M.bqN (sms xs) least (M.bqI (sms xs) least f (M.bqA (sms xs) least f) ((M.cutP (sms xs) f).take k)) f ((M.cutP (sms xs) f).getD k 0)) := fun k hk => M.bqI_take _ _ _ _ _ hk
      have UD : Hid (∀ c, (0 ≤ M.spU (sms xs) f c ∧ M.spU (sms xs) f c ≤ 432000000000) ∧ (0 ≤ M.spD (sms xs) f c ∧ M.spD (sms xs) f c ≤ 3600)) := fun c => AA.out.ud f c
      have TB : Hid (∀ c b, -60000 ≤ M.tB (sms xs) f c b ∧ M.tB (sms xs) f c b ≤ 60000 ∧ 0 ≤ M.nB (sms xs) f c b ∧ M.nB (sms xs) f c b ≤ 60) := fun c b => AA.out.two f c b
      have cl60 : Hid ((M.cutP (sms xs) f).length ≤ 60) := by
        unfold Hid M.cutP M.risL
        have e1 := compact_le (M.sortI (M.colL (sms xs) f))
        rw [M.sort_length, M.colL_len, SL.out] at e1
        rw [List.length_drop]
        omega
      obtain ⟨S, hS⟩ : ∃ S, S = M.bqI (sms xs) least f (M.bqA (sms xs) least f) := ⟨_, rfl⟩
      have S0 : Hid (S [] = M.bqA (sms xs) least f) := by rw [hS]; rfl
      rw [← hS] at BS SI BT
      rw [← S0.out] at Q
      rw [← S0.out]
      have CL := hide (rfl : M.cutP (sms xs) f = M.cutP (sms xs) f)
      clear GCC PPC hS HV
      go_upto_region 5 with fail
      generalize M.cutP (sms xs) f = C at *
      go_wp2_with (go_at_call 58; refine CC.out.mono ?_; rintro e w4 ⟨ag, cg, rfl, hra, hb4, hfr⟩; have RA := hide hra; have Q4 := hide (Q.out.up hb4); have FR : Hid (∀ p, ag = some p → b6 < p.block ∧ b8 < p.block) := (fun p hp => ⟨Nat.lt_of_lt_of_le Q.out.l6.2 (hfr p hp), Nat.lt_of_lt_of_le Q.out.l8.2 (hfr p hp)⟩); clear hra hb4 hfr)
      have c60 := cl60.out
      clear CC Q cl60 CL
      go_loopw [7, 26] (fun v i wr => ∃ k : Nat, k ≤ C.length ∧ i = .int .i64 k ∧ v = .bool (S (C.take k)).2.2.2.2 ∧ Hid (Rd wr ag C) ∧ Hid (Bq w wr b6 b8 (S (C.take k)))) (fun _ i _ => C.length - (intOf i).toNat)
      case atStart => exact ⟨0, Nat.zero_le _, rfl, rfl, RA, Q4⟩
      case round =>
        obtain ⟨k, hk, rfl, rfl, R, Q⟩ := hrel
        clear RA Q4
        by_cases klt : k < C.length
        · have BK := hide (BT.out k klt)
          have SK := hide (SI.out (C.take k))
          obtain ⟨bc, oc, rfl, hbc, hcc⟩ := R.out.2 (by intro e; rw [e] at klt; simp at klt)
          have hck := hcc k klt
          have kz : (k : Int) < (C.length : Int) := by omega
          generalize C.getD k 0 = cu at *
          generalize S (C.take k) = st at *
          have ET : Hid (((partX xs f cu true).length : Int) = M.nB (sms xs) f cu true) := partX_len _ _ _ _
          have EF : Hid (((partX xs f cu false).length : Int) = M.nB (sms xs) f cu false) := partX_len _ _ _ _
          have ST : Hid (M.sumT (sms (partX xs f cu true)) = M.tB (sms xs) f cu true) := by unfold Hid M.tB; rw [partX_sms]
          have SF : Hid (M.sumT (sms (partX xs f cu false)) = M.tB (sms xs) f cu false) := by unfold Hid M.tB; rw [partX_sms]
          have PCK := hide (PC.out cu)
          have RT := hide (fun pa cap W hW => RR.out pa f cu true cap W hW)
          have RF := hide (fun pa cap W hW => RR.out pa f cu false cap W hW)
          rw [ST.out] at RT
          rw [SF.out] at RF
          obtain ⟨ud1, ud2⟩ := UD.out cu
          obtain ⟨t1, t2, n1, n2⟩ := TB.out cu true
          obtain ⟨t3, t4, n3, n4⟩ := TB.out cu false
          have EU : Hid (M.spU (sms xs) f cu = M.tB (sms xs) f cu true * M.tB (sms xs) f cu true * M.nB (sms xs) f cu false + M.tB (sms xs) f cu false * M.tB (sms xs) f cu false * M.nB (sms xs) f cu true) := rfl
          have ED : Hid (M.spD (sms xs) f cu = M.nB (sms xs) f cu true * M.nB (sms xs) f cu false) := rfl
          have FEW : Hid (M.nB (sms xs) f cu true < least ∨ M.nB (sms xs) f cu false < least → M.bqN (sms xs) least st f cu = st) := M.bqN_few
          have YES : Hid (¬ (M.nB (sms xs) f cu true < least ∨ M.nB (sms xs) f cu false < least) → st.1 * M.spD (sms xs) f cu < M.spU (sms xs) f cu * st.2.1 → M.bqN (sms xs) least st f cu = (M.spU (sms xs) f cu, M.spD (sms xs) f cu, f, cu, true)) := M.bqN_yes
          have NO : Hid (¬ (M.nB (sms xs) f cu true < least ∨ M.nB (sms xs) f cu false < least) → ¬ st.1 * M.spD (sms xs) f cu < M.spU (sms xs) f cu * st.2.1 → M.bqN (sms xs) least st f cu = st) := M.bqN_no
          rw [← ET.out, ← EF.out] at EU ED FEW YES NO
          rw [← ET.out] at n1 n2
          rw [← EF.out] at n3 n4
          have G0 : Hid (∀ W, Below wr.heap.size wr W → Rd W (some ⟨bc, oc, none⟩) C) := fun W hW => R.out.below hW
          clear UD TB PC RR ET EF ST SF SI BT BS S0 HL AA SL R hcc
          generalize M.spU (sms xs) f cu = U at *
          generalize M.spD (sms xs) f cu = D at *
          generalize M.bqN (sms xs) least st f cu = NW at *
          generalize M.tB (sms xs) f cu true = tT at *
          generalize M.tB (sms xs) f cu false = tF at *
          generalize partX xs f cu true = XT at *
          generalize partX xs f cu false = XF at *
          go_upto_region 9 with fail
          obtain ⟨w5, hw5⟩ : ∃ W, W = wr.alloc (.cells #[.int .i64 (f : Nat), .int .i64 cu] 72) := ⟨_, rfl⟩
          rw [← hw5]
          have K5 : Hid (Below wr.heap.size wr w5) := by unfold Hid; rw [hw5]; exact (Below.refl _ wr).alloc (Nat.le_refl _) _
          have N5 : Hid (∀ W, Below w5.heap.size w5 W → W.cell? ⟨wr.heap.size, 0, none⟩ = some (.int .i64 (f : Nat)) ∧ W.cell? ⟨wr.heap.size, 1, none⟩ = some (.int .i64 cu)) := fun W hW => ⟨(new_kept hw5 hW).1 0 _ rfl, (new_kept hw5 hW).1 1 _ rfl⟩
          obtain ⟨y0, y1⟩ := N5.out w5 (Below.refl _ _)
          have P5 := hide (PCK.out w5 (below_on Q.out.b K5.out))
          clear hw5 PCK hck
          go_upto_region 10 with (go_at_call 53; refine P5.out.mono ?_; rintro e w6 ⟨pa, pac, pb, pbc, rfl, hra, hrb, hk6, _, _⟩; have RA := hide hra; have RB := hide hrb; have K6 := hide hk6; clear hra hrb hk6)
          have KR6 := hide (below_on K5.out K6.out)
          clear P5 y0 y1
          by_cases few : (XT.length : Int) < least ∨ (XF.length : Int) < least
          · have EN : Hid (S (C.take (k + 1)) = st) := by unfold Hid; rw [BK.out]; exact FEW.out few
            have QN : Hid (Bq w w6 b6 b8 (S (C.take (k + 1)))) := by unfold Hid; rw [EN.out]; exact Q.out.up KR6.out
            have GN := hide (G0.out w6 KR6.out)
            by_cases fa : (XT.length : Int) < least
            · have q1 : decide ((XT.length : Int) < least) = true := decide_eq_true fa
              clear few fa FEW YES NO EU ED RT RF Q RA RB K5 K6 KR6 N5 G0 BK
              go_wp2
              go_roundw
              case rel => exact ⟨k + 1, by omega, by go_num, by rw [EN.out], GN, QN⟩
              case measure => simp [intOf]; omega
            · have q1 : decide ((XT.length : Int) < least) = false := decide_eq_false fa
              have q2 : decide ((XF.length : Int) < least) = true := decide_eq_true (by omega)
              clear few fa FEW YES NO EU ED RT RF Q RA RB K5 K6 KR6 N5 G0 BK
              go_wp2
              go_roundw
              case rel => exact ⟨k + 1, by omega, by go_num, by rw [EN.out], GN, QN⟩
              case measure => simp [intOf]; omega
          · have q1 : decide ((XT.length : Int) < least) = false := decide_eq_false (by omega)
            have q2 : decide ((XF.length : Int) < least) = false := decide_eq_false (by omega)
            have YES2 := hide (YES.out few)
            have NO2 := hide (NO.out few)
            clear few FEW YES NO
            have z1 := M.sqR_in t1 t2
            have z2 := M.sqR_in t3 t4
            have z3 := M.mulp_in z1.1 z1.2 n3 n4
            have z4 := M.mulp_in z2.1 z2.2 n1 n2
            have z5 := M.mulp_in n1 n2 n3 n4
            have PL := hide (fun W => plus_any (tT * tT) (XT.length : Int) (tF * tF) (XF.length : Int) W (wrap_in5 _ (by omega) (by omega)) (wrap_in5 _ (by omega) (by omega)) (wrap_in5 _ (by omega) (by omega)) (wrap_in5 _ (by omega) (by omega)))
            rw [← EU.out, ← ED.out] at PL
            obtain ⟨⟨st1, st2⟩, st3, st4⟩ := SK.out
            have v1 := M.mulp_in ud1.1 ud1.2 st3 st4
            have v2 := M.mulp_in st1 st2 ud2.1 ud2.2
            have MO := hide (fun W => more_any U D st.1 st.2.1 W (wrap_in5 _ (by omega) (by omega)) (wrap_in5 _ (by omega) (by omega)))
            have RT6 := hide (RT.out pa pac w6 RA.out)
            clear z1 z2 z3 z4 z5 v1 v2 st1 st2 st3 st4 EU ED RT SK t1 t2 t3 t4
            generalize tT * tT = tt at *
            generalize tF * tF = tf at *
            go_upto_region 12 with (first
              | (go_at_call 57; have lean := K7; refine (RF.out pb pbc _ (RB.out.below K7.out)).mono ?_; rintro e w8 ⟨rfl, hk8⟩; have K8 := hide (below_on K7.out hk8); clear hk8)
              | (go_at_call 57; refine RT6.out.mono ?_; rintro e w7 ⟨rfl, hk7⟩; have K7 := hide hk7; clear hk7)
              | (go_at_call 59; refine (PL.out _).mono ?_; rintro e w9 ⟨rfl, hk9⟩; have K9 := hide (below_on K8.out hk9); clear hk9))
            obtain ⟨w10, hw10⟩ : ∃ W, W = w9.alloc (.cells #[.int .i64 U, .int .i64 D] 98) := ⟨_, rfl⟩
            rw [← hw10]
            have K10 : Hid (Below w9.heap.size w9 w10) := by unfold Hid; rw [hw10]; exact (Below.refl _ w9).alloc (Nat.le_refl _) _
            have N10 : Hid (∀ W, Below w10.heap.size w10 W → W.cell? ⟨w9.heap.size, 0, none⟩ = some (.int .i64 U) ∧ W.cell? ⟨w9.heap.size, 1, none⟩ = some (.int .i64 D)) := fun W hW => ⟨(new_kept hw10 hW).1 0 _ rfl, (new_kept hw10 hW).1 1 _ rfl⟩
            have K5X := hide (below_on (below_on K6.out K9.out) K10.out)
            have Q10 := hide (Q.out.up (below_on K5.out K5X.out))
            obtain ⟨a0, a1⟩ := N10.out w10 (Below.refl _ _)
            have a2 := Q10.out.c2
            have a3 := Q10.out.c3
            have M10 := hide (MO.out w10)
            have LB : Hid (b6 < wr.heap.size ∧ b8 < wr.heap.size ∧ wr.heap.size ≤ w9.heap.size) := ⟨Q.out.l6.2, Q.out.l8.2, (below_on K5.out (below_on K6.out K9.out)).size⟩
            clear hw10 RT6 RF PL MO K7 K8 RA RB Q
            by_cases mo : st.1 * D < U * st.2.1
            · have EN : Hid (S (C.take (k + 1)) = (U, D, f, cu, true)) := by unfold Hid; rw [BK.out]; exact YES2.out mo
              rw [decide_eq_true mo] at M10
              clear mo YES2 NO2 BK
              go_upto_region 13 with (go_at_call 60; refine M10.out.mono ?_; rintro e w11 ⟨rfl, hk11⟩; have K11 := hide hk11; clear hk11)
              have Q11 := hide (Q10.out.up K11.out)
              have K5Y := hide (below_on K5X.out K11.out)
              obtain ⟨h0, h1'⟩ := N10.out w11 K11.out
              obtain ⟨g0, g1⟩ := N5.out w11 K5Y.out
              have d0 := Q11.out.c0
              have d1 := Q11.out.c1
              have d2 := Q11.out.c2
              have d3 := Q11.out.c3
              have p0 := Q11.out.f6 0
              have p1 := Q11.out.f6 1
              have p2 := Q11.out.f8 0
              have p3 := Q11.out.f8 1
              have GN := hide (G0.out w11 (below_on K5.out K5Y.out))
              clear M10 N10 N5 Q10 a0 a1 a2 a3 K5X K10 K9 K6 K11 KR6
              have ne1 : ¬ b6 = b8 := Q11.out.ne
              have ne2 : ¬ b8 = b6 := fun e => Q11.out.ne e.symm
              obtain ⟨m1, m2, m3⟩ := LB.out
              have o1 : ¬ b6 = w9.heap.size := by omega
              have o2 : ¬ w9.heap.size = b6 := by omega
              have o3 : ¬ b8 = w9.heap.size := by omega
              have o4 : ¬ w9.heap.size = b8 := by omega
              have o5 : ¬ b6 = wr.heap.size := by omega
              have o6 : ¬ wr.heap.size = b6 := by omega
              have o7 : ¬ b8 = wr.heap.size := by omega
              have o8 : ¬ wr.heap.size = b8 := by omega
              clear m1 m2 m3
              have fr := FR.out _ rfl
              have GS : Hid (Rd ((((w11.setCell ⟨b6, 0, none⟩ (.int .i64 (f : Nat))).setCell ⟨b6, 1, none⟩ (.int .i64 cu)).setCell ⟨b8, 0, none⟩ (.int .i64 U)).setCell ⟨b8, 1, none⟩ (.int .i64 D)).drew (some ⟨bc, oc, none⟩) C) := by
                have z6 : ∀ p, (some ⟨bc, oc, none⟩ : Option Addr) = some p → (some b6 : Option Nat) ≠ some p.block := fun p hp e => by cases hp; cases e; exact Nat.lt_irrefl _ fr.1
                have z8 : ∀ p, (some ⟨bc, oc, none⟩ : Option Addr) = some p → (some b8 : Option Nat) ≠ some p.block := fun p hp e => by cases hp; cases e; exact Nat.lt_irrefl _ fr.2
                exact ((((GN.out.grown z6 grown_set).grown z6 grown_set).grown z8 grown_set).grown z8 grown_set).below ((Below.refl _ _).drew)
              have QS : Hid (Bq w ((((w11.setCell ⟨b6, 0, none⟩ (.int .i64 (f : Nat))).setCell ⟨b6, 1, none⟩ (.int .i64 cu)).setCell ⟨b8, 0, none⟩ (.int .i64 U)).setCell ⟨b8, 1, none⟩ (.int .i64 D)).drew b6 b8 (S (C.take (k + 1)))) := by
                unfold Hid; rw [EN.out]; exact (Q11.out.put (U, D, f, cu, true)).up ((Below.refl _ _).drew)
              clear fr
              go_region
              go_wp2
              go_roundw
              case rel => exact ⟨k + 1, by omega, by go_num, by rw [EN.out], GS, QS⟩
              case measure => simp [intOf]; omega
            · have EN : Hid (S (C.take (k + 1)) = st) := by unfold Hid; rw [BK.out]; exact NO2.out (Int.not_lt.1 mo)
              rw [decide_eq_false mo] at M10
              clear mo YES2 NO2 BK
              go_wp2_with (go_at_call 60; refine M10.out.mono ?_; rintro e w11 ⟨rfl, hk11⟩; have QN : Hid (Bq w w11 b6 b8 (S (C.take (k + 1)))) := (by unfold Hid; rw [EN.out]; exact Q10.out.up hk11); have GN := hide (G0.out w11 (below_on K5.out (below_on K5X.out hk11))); clear hk11)
              go_roundw
              case rel => exact ⟨k + 1, by omega, by go_num, by rw [EN.out], GN, QN⟩
              case measure => simp [intOf]; omega
        · have ke : C.take k = C := List.take_of_length_le (by omega)
          have QE : Hid (Bq w wr b6 b8 (M.bqA (sms xs) least (f + 1))) := by unfold Hid; rw [BS.out, ← ke]; exact Q.out
          have VE : Hid ((S (C.take k)).2.2.2.2 = (M.bqA (sms xs) least (f + 1)).2.2.2.2) := by unfold Hid; rw [BS.out, ke]
          clear ke R Q BT SI BS UD TB PC RR
          generalize (S (C.take k)).2.2.2.2 = fo at *
          go_wp2
          go_roundw
          case rel => exact ⟨f + 1, by omega, by go_num, by rw [VE.out], QE⟩
          case measure => simp [intOf]; omega
    · have fe : f = m := by omega
      have q := Q.out
      rw [fe, ← HV.out] at q
      have E : Hid ((M.bqA (sms xs) least f).2.2.2.2 = V.2.2.2.2) := by unfold Hid; rw [fe, HV.out]
      have QV := hide q
      have x0 := q.c0
      have x1 := q.c1
      have f0 := q.f6 0
      have f1 := q.f6 1
      clear Q q fe HV GCC PPC RR HL AA
      generalize (M.bqA (sms xs) least f).2.2.2.2 = fo at *
      go_wp2
      obtain ⟨e0, e1⟩ := set2 (x0 := .int .i64 (V.2.2.1 : Nat)) (x1 := .int .i64 V.2.2.2.1) x0 x1
      refine bodyPost_ret (v := .tuple #[.agg #[.int .i64 (V.2.2.1 : Nat), .int .i64 V.2.2.2.1], .bool fo]) (by simp [results, Try.results32, go_sem, e0, e1]) rfl ?_
      exact ⟨by rw [E.out], below2 QV.out.b QV.out.l6.1⟩

end Go.Proofs.Ytpblpfleiilehaf

namespace Go.Proofs.Ytpblpfleiilehaf
open Go.ChangeShapes Go.WideShapes Go.ChangeAt Go.RowKit Go.Shelf Go.Lib Go.Sort
set_option linter.unusedVariables false

/-- the library's sort, of a row of our own -/
theorem sort_own (base : Nat) (v : Value) (F : List Int) (w : World) (hown : w.ownsRow base 3 1 v F.length (F.map (Value.int .i64))) (hsz : F.length < 4611686018427387904) (hbase : base ≤ w.heap.size) :
    Calls Try.prog 81 #[v] w fun e w' => e = .returned (.tuple #[]) ∧ w'.ownsRow base 3 1 v F.length ((M.sortI F).map (Value.int .i64)) ∧ Below base w w' := by
  rcases hown.2 with ⟨rfl, h0⟩ | ⟨g, cap, cur, rfl, hb0, hb, h1, h2, h3, h4⟩
  · have e : F = [] := List.length_eq_zero_iff.1 h0
    subst e
    refine (Try.slices_Sort_int_none none 0 w).mono ?_
    rintro e w' ⟨rfl, rfl⟩
    exact ⟨rfl, by rw [show M.sortI [] = [] from by simp [M.sortI]]; exact hown, Below.refl _ _⟩
  · have hg : g < w.heap.size := (Array.getElem?_eq_some_iff.1 hb).1
    refine (Try.slices_Sort_int g 0 cap F w (holds_of_blockI hb (by simpa using h4)) hg hsz).mono ?_
    rintro e w' ⟨rfl, n, os, rfl⟩
    refine ⟨rfl, ownsRow_sortedI (by simp) hb0 hb h1 h2 h3, ?_⟩
    exact (Below.refl _ w).grown (grownBy_sortedI _) hbase (fun k hk => by cases hk; exact hb0)

theorem own_cut {w : World} {base g n cap m : Nat} {L K : List Int} (h : w.ownsRow base 3 1 (.slice (some ⟨g, 0, none⟩) n cap) n ((L ++ K).map (Value.int .i64))) (hm : m = L.length) :
    w.ownsRow base 3 1 (.slice (some ⟨g, 0, none⟩) m cap) m (L.map (Value.int .i64)) := by
  subst hm
  have hl : (L ++ K).length = n := by have := h.1; simpa using this
  rcases h.2 with ⟨h0, _⟩ | ⟨g', cap', cur, hv, hbase, hb, h1, h2, h3, h4⟩
  · cases h0
  cases hv
  rw [List.length_append] at hl
  refine ⟨by simp, .inr ⟨g, cap, cur, rfl, hbase, hb, by omega, h2, h3, ?_⟩⟩
  have : cur.toList.take (L.length * 1) = (cur.toList.take (n * 1)).take (L.length * 1) := by rw [List.take_take, Nat.min_eq_left (by omega)]
  rw [this, h4, List.map_append, Nat.mul_one]
  exact List.take_left' (by simp)

theorem compact_len (l : List Int) : (Lib.compact l).length ≤ l.length := by
  unfold Lib.compact Lib.compactUpTo
  rw [List.length_map]
  exact Nat.le_trans (List.length_filter_le _ _) (by simp)

/-- the library's Compact, of a row of our own -/
theorem compact_own (base : Nat) (v : Value) (F : List Int) (w : World) (hown : w.ownsRow base 3 1 v F.length (F.map (Value.int .i64))) (hsz : F.length ≤ 1000000) (hbase : base ≤ w.heap.size) :
    Calls Try.prog 82 #[v] w fun e w' => ∃ v', e = .returned v' ∧ w'.ownsRow base 3 1 v' (Lib.compact F).length ((Lib.compact F).map (Value.int .i64)) ∧ Below base w w' := by
  rcases hown.2 with ⟨rfl, h0⟩ | ⟨g, cap, cur, rfl, hb0, hb, h1, h2, h3, h4⟩
  · have e : F = [] := List.length_eq_zero_iff.1 h0
    subst e
    refine (Try.slices_Compact_int_empty none 0 w).mono ?_
    rintro e w' ⟨rfl, rfl⟩
    exact ⟨_, rfl, hown, Below.refl _ _⟩
  · have hg : g < w.heap.size := (Array.getElem?_eq_some_iff.1 hb).1
    refine (Try.slices_Compact_int g 0 cap F w (holds_of_blockI hb (by simpa using h4)) (by omega) h1).mono ?_
    rintro e w' ⟨rfl, q, rfl⟩
    have hle := compact_len F
    have hlen : (Lib.compact F ++ List.replicate (F.length - (Lib.compact F).length) 0).length = F.length := by rw [List.length_append, List.length_replicate]; omega
    have := ownsRow_sortedI (w := w) (base := base) (g := g) (cap := cap) (n := q) (e := 3) (os := #[]) (cur := cur) (ss := F) (ts := Lib.compact F ++ List.replicate (F.length - (Lib.compact F).length) 0) hlen hb0 hb h1 h2 h3
    have hb2 : Below base w (grow (putRow (Value.int .i64) (Sort.ahead w q) g 0 (Lib.compact F ++ List.replicate (F.length - (Lib.compact F).length) 0).toArray) #[]) := (Below.refl _ w).grown (grownBy_sortedI _) hbase (fun k hk => by cases hk; exact hb0)
    rw [grow_empty] at this hb2
    exact ⟨_, rfl, own_cut this rfl, hb2⟩

end Go.Proofs.Ytpblpfleiilehaf

namespace Go.Proofs.Ytpblpfleiilehaf
open Go.ChangeShapes Go.WideShapes Go.ChangeAt Go.RowKit Go.Lib
set_option linter.unusedVariables false

theorem ris_pos {l : List M.Sa} {f : Nat} (h : 0 < l.length) : 0 < (M.risL l f).length := by
  rcases hr : M.risL l f with _ | ⟨v, t⟩
  · exfalso
    have e : M.colA (M.sAt l 0) f ∈ M.risL l f := (M.ris_mem l f _).2 ((M.col_at l f _).2 ⟨0, h, rfl⟩)
    rw [hr] at e
    cases e
  · simp
theorem drop_rd {w : World} {base g cap : Nat} {V : List Int} (h : w.ownsRow base 3 1 (.slice (some ⟨g, 0, none⟩) V.length cap) V.length (V.map (Value.int .i64))) (ag : Option Addr) (ha : V.length ≠ 1 → ag = some ⟨g, 1, none⟩) (h0 : 0 < V.length) : Rd w ag (V.drop 1) := by
  obtain ⟨a2, c2, e2, hr, _⟩ := own_rd h
  rw [Value.slice.injEq] at e2
  have e2' := e2.1
  subst e2'
  refine ⟨by rw [List.length_drop]; have := hr.1; omega, fun hn => ?_⟩
  have hl : 1 < V.length := by
    have : 0 < (V.drop 1).length := List.length_pos_iff.2 hn
    rw [List.length_drop] at this
    omega
  obtain ⟨b, off, e, hb, hc⟩ := hr.2 (by intro e; rw [e] at h0; simp at h0)
  have ea := ha (by omega)
  cases e
  refine ⟨g, 1, ea, hb, fun i hi => ?_⟩
  rw [List.length_drop] at hi
  have := hc (i + 1) (by omega)
  rw [show 0 + (i + 1) = 1 + i by omega] at this
  rw [this]
  simp [List.getD]

theorem own_room {w : World} {base g n cap : Nat} {l : List Value} (h : w.ownsRow base 3 1 (.slice (some ⟨g, 0, none⟩) n cap) n l) : n ≤ cap ∧ cap ≤ 9223372036854775807 := by
  rcases h.2 with ⟨h0, _⟩ | ⟨g', cap', cur, hv, hb, hg, h1, h2, h3⟩
  · cases h0
  · cases hv
    unfold maxLen at h2
    exact ⟨h1, h2⟩
set_option maxHeartbeats 4000000 in
set_option maxRecDepth 10000 in
theorem gcuts_any : GCutsGives := by
  intro a xs ca m f w h A hf hp
  have HL := hide h
  have AA := hide A
  have l60 := A.le
  obtain ⟨i0, hi, hz0, hz1, hz2⟩ := info_parts info3
  have CA : Hid (∀ k (hk : k < xs.length) (hk' : k < (M.colL (sms xs) f).length), (M.colL (sms xs) f)[k]'hk' = xs[k].2.1.getD f 0) := fun k hk hk' => by simp [M.colL, sms, M.colA, sm]
  have CL : Hid ((M.colL (sms xs) f).length = xs.length) := by unfold Hid; rw [M.colL_len, sms_len]
  have RP : Hid (0 < (M.risL (sms xs) f).length) := ris_pos (by rw [sms_len]; exact hp)
  have RL : Hid ((M.risL (sms xs) f).length ≤ 60) := by
    unfold Hid M.risL
    have e1 := compact_le (M.sortI (M.colL (sms xs) f))
    rw [M.sort_length, CL.out] at e1
    omega
  have RD : Hid (Lib.compact (M.sortI (M.colL (sms xs) f)) = M.risL (sms xs) f) := rfl
  have SO := hide (fun v F W h h1 h2 => sort_own w.heap.size v F W h h1 h2)
  have CO := hide (fun v F W h h1 h2 => compact_own w.heap.size v F W h h1 h2)
  have SL := hide (M.sort_length (M.colL (sms xs) f))
  have EC : Hid (M.cutP (sms xs) f = (M.risL (sms xs) f).drop 1) := rfl
  obtain ⟨CP, hCP⟩ : ∃ C, C = M.cutP (sms xs) f := ⟨_, rfl⟩
  rw [← hCP] at EC ⊢
  clear h A hCP
  generalize M.risL (sms xs) f = R at *
  generalize M.colL (sms xs) f = F at *
  go_enter Try.func58, Try.ntmps58
  go_wp2_with (at_make; refine wpList_make_full _ rfl (.tmp 9) (.tmp 9) 23 rfl w.heap.size 3 i0 (.int .i64 0) 1 Try.underlying23 hi hz0 hz1 .i64 .i64 _ _ xs.length rfl rfl (by omega) (by omega) (by rw [hz2]; omega) (by unfold maxLen; omega) (Nat.le_refl _) ?_; intro w2 hown hgrow)
  rw [made] at hown
  have hB : Hid (Below w.heap.size w w2) := (Below.refl _ w).grown hgrow (Nat.le_refl _) (fun k hk => by cases hk)
  have ho : Hid (w2.ownsRow w.heap.size 3 1 (.slice (some ⟨w.heap.size, 0, none⟩) xs.length xs.length) xs.length ((M.fillI F 0).map (Value.int .i64))) := by
    unfold Hid; rw [M.fill_zero, CL.out]; exact hown
  clear hown hgrow hi hz0 hz1 hz2
  go_loopw [13] (fun i wr => ∃ k : Nat, k ≤ xs.length ∧ i = .int .i64 k ∧ Hid (wr.ownsRow w.heap.size 3 1 (.slice (some ⟨w.heap.size, 0, none⟩) xs.length xs.length) xs.length ((M.fillI F k).map (Value.int .i64))) ∧ Hid (Below w.heap.size w wr)) (fun i _ => xs.length - (intOf i).toNat)
  case atStart => exact ⟨0, Nat.zero_le _, rfl, ho, hB⟩
  case round =>
    obtain ⟨k, hk, rfl, HO, K⟩ := hrel
    clear ho hB
    by_cases hlt : k < xs.length
    · obtain ⟨bl, ol, rfl, hbl, hcl⟩ := (HL.out.below K.out).2.2 (by intro e; rw [e] at hlt; simp at hlt)
      obtain ⟨c0, c1⟩ := hcl k hlt
      have hr := AA.out.row xs[k] (List.getElem_mem hlt)
      have fr : f < xs[k].2.1.length := by omega
      obtain ⟨bx, ox, ex, hbx, hcx⟩ := ((HL.out.below K.out).2.1 xs[k] (List.getElem_mem hlt)).2 (by intro e; rw [e] at fr; simp at fr)
      have hx := hcx f fr
      have kl : k < F.length := by rw [CL.out]; exact hlt
      have UA : Hid (∀ o, Below wr.heap.size wr (wr.alloc o)) := fun o => (Below.refl _ wr).alloc (Nat.le_refl _) o
      have OA : Hid (∀ o, (wr.alloc o).ownsRow w.heap.size 3 1 (.slice (some ⟨w.heap.size, 0, none⟩) xs.length xs.length) xs.length ((M.fillI F k).map (Value.int .i64))) := fun o => own_up HO.out (UA.out o)
      have hlen : k < ((M.fillI F k).map (Value.int .i64)).length := by rw [List.length_map, M.fill_len _ _ (by omega)]; exact kl
      have FZ : ∀ o, (wr.alloc o).frozen? ⟨w.heap.size, k, none⟩ = false := fun o => (OA.out o).frozenAt k
      have CZ : ∀ o, (wr.alloc o).cell? ⟨w.heap.size, k, none⟩ = some (((M.fillI F k).map (Value.int .i64))[k]'hlen) := fun o => by
        rw [(OA.out o).cellAt k (by omega), List.getElem?_eq_getElem hlen]
      have GX : ∀ o, (wr.alloc o).cell? ⟨bx, ox + f, none⟩ = some (.int .i64 (xs[k].2.1.getD f 0)) := fun o => ((UA.out o).cell (p := ⟨bx, ox + f, none⟩) hbx).trans hx
      have HR : Hid (∀ o, ((wr.alloc o).setCell ⟨w.heap.size, k, none⟩ (.int .i64 (xs[k].2.1.getD f 0))).ownsRow w.heap.size 3 1 (.slice (some ⟨w.heap.size, 0, none⟩) xs.length xs.length) xs.length ((M.fillI F (k + 1)).map (Value.int .i64)) ∧ Below w.heap.size w ((wr.alloc o).setCell ⟨w.heap.size, k, none⟩ (.int .i64 (xs[k].2.1.getD f 0)))) := fun o =>
        fill_step (w := w) (x := xs[k].2.1.getD f 0) CL.out hlt (CA.out k hlt kl).symm (OA.out o) (below_on K.out (UA.out o))
      have kz : (k : Int) < (xs.length : Int) := by omega
      have fz : (f : Int) < (xs[k].2.1.length : Int) := by omega
      unfold sxV at c0
      rw [ex] at c0
      clear hcl hcx HL AA CA HO OA UA kl SO CO SL RD RP RL EC fr hr hx ex
      generalize xs[k].2.1.getD f 0 = v at *
      generalize xs[k].2.2.2 = t at *
      generalize xs[k].2.1.length = rl at *
      generalize xs[k].2.2.1 = rc at *
      generalize ((M.fillI F k).map (Value.int .i64))[k]'hlen = z at *
      clear hlen
      go_wp2
      go_roundw
      case rel => exact ⟨k + 1, by omega, by go_num, (HR.out _).1, (HR.out _).2⟩
      case measure => simp [intOf]; omega
    · have ke : k = F.length := by rw [CL.out]; omega
      have ho := HO.out
      rw [ke, M.fill_all] at ho
      rw [← CL.out] at ho
      have S1 := hide (SO.out (.slice (some ⟨w.heap.size, 0, none⟩) F.length F.length) F wr ho (by rw [CL.out]; omega) K.out.size)
      have C1 := hide (fun W => CO.out (.slice (some ⟨w.heap.size, 0, none⟩) F.length F.length) (M.sortI F) W)
      rw [SL.out, RD.out] at C1
      rw [CL.out] at S1 C1
      have rp := RP.out
      have rl := RL.out
      clear ke ho HO HL AA CA SO CO SL RD RP RL CL
      generalize M.sortI F = SI at *
      go_upto_region 8 with (go_at_call 81; refine S1.out.mono ?_; rintro e w3 ⟨rfl, ho3, hb3⟩; have K3 := hide (K.out.trans hb3); have C3 := hide (C1.out w3 ho3 (by omega) K3.out.size); clear ho3 hb3)
      clear S1 C1
      have r1 : (1 : Int) ≤ (R.length : Int) := by omega
      go_wp2_with (go_at_call 82; refine C3.out.mono ?_; rintro e w4 ⟨v4, rfl, ho4, hb4⟩; obtain ⟨g, cap, rfl, hg1, hg2⟩ := own_shape ho4 rp; have hcap := (own_room ho4).1; have hcap2 := (own_room ho4).2; have HC := hide hcap; have O4 := hide ho4; have K4 := hide (K3.out.trans hb4); have G1 := hide hg1; clear ho4 hb4 hg1 hg2)
      all_goals (
        go_ret
        have e1 := EC.out
        have hc := HC.out
        subst e1
        first
          | exact ⟨_, ⟨_, by rw [List.length_drop]; rfl⟩, drop_rd O4.out _ (fun _ => rfl) rp, K4.out, fun p hp => by cases hp; exact G1.out⟩
          | exact ⟨_, ⟨_, by rw [List.length_drop]; rfl⟩, drop_rd O4.out _ (fun q => absurd (by omega) q) rp, K4.out, fun p hp => by cases hp; exact G1.out⟩)

end Go.Proofs.Ytpblpfleiilehaf

namespace Go.Proofs.Ytpblpfleiilehaf
open Go.ChangeShapes Go.WideShapes Go.ChangeAt Go.RowKit Go.Lib
set_option linter.unusedVariables false

def GroCheckGives : Prop := ∀ (a : Option Addr) (xs : List Sx) (ca : Nat) (m : Int) (W : World), RdL W a xs → Calls Try.prog 14 #[.slice a xs.length ca, .int .i64 m] W fun e w' => e = .returned (.tuple #[.int .i64 ((M.samF (sms xs) m).1 : Nat), errV (M.samF (sms xs) m).2]) ∧ Below W.heap.size W w'

end Go.Proofs.Ytpblpfleiilehaf
