/-
  Several texts as one: WeiGains.
-/
import Derived.Test.YtlloiccodjnkcagGreatDoorRunW16
import Derived.Test.YtlloiccodjnkcagGreatDoorRunW22
import Derived.Test.YtlloiccodjnkcagGreatDoorRunW23
import Derived.Test.YtlloiccodjnkcagGreatDoorRunW14
import Derived.Test.YtlloiccodjnkcagGreatDoorRunW25
namespace Go.Proofs.YtlloiccodjnkcagGreatDoor
open Go.ChangeShapes Go.WideShapes Go.ChangeAt Go.RowKit Go.Lib
set_option linter.unusedVariables false

set_option maxHeartbeats 1000000 in
theorem wgain_any : MuchGives 42 (M.keyU true) := by
  refine ⟨enters_of Tryz.func42 (by kernel_rfl) rfl, fun u W => ?_⟩
  show Calls Tryz.prog 42 #[.agg #[.int .i64 u.1, .int .i64 u.2.1, .int .i64 u.2.2]] W fun e w' => e = .returned (.int .i64 u.2.2) ∧ Gro W w'
  go_enter Tryz.func42, Tryz.ntmps42
  go_wp2
  go_ret
  exact ⟨rfl, Gro.alloc _ _⟩
theorem gain_is {t : List M.Nd} {xs : List Sx} {m : Nat} (D : Dwn t xs m) {i a b : Nat} (hi : i < t.length) (hf : M.nf (M.nAt t i) ≠ -1) (ea : M.nl (M.nAt t i) = a) (eb : M.nr (M.nAt t i) = b) : M.gainN t (sms xs) i = M.sprd (sms (hX t xs i)) - M.sprd (sms (hX t xs a)) - M.sprd (sms (hX t xs b)) := by
  obtain ⟨c1, c2⟩ := hX_child D hi hf ea eb
  unfold M.gainN
  rw [c1, c2, partX_sms, partX_sms, hX_sms]
theorem Dwn.ask {t : List M.Nd} {xs : List Sx} {m : Nat} (D : Dwn t xs m) (i : Nat) : Ask (hX t xs i) m := ⟨Nat.le_trans (hX_len _ _ _) D.le, fun x hx => (D.row x (hX_mem hx)).1, fun x hx => D.tgt x (hX_mem hx)⟩
theorem Dwn.sprd {t : List M.Nd} {xs : List Sx} {m : Nat} (D : Dwn t xs m) (i : Nat) : 0 ≤ M.sprd (sms (hX t xs i)) ∧ M.sprd (sms (hX t xs i)) ≤ 60000000 :=
  ⟨M.sprd_nonneg _, M.sprd_le (fun s hs => by
    obtain ⟨x, hx, rfl⟩ := List.mem_map.1 hs
    exact D.tgt x (hX_mem hx)) (by rw [sms_len]; exact Nat.le_trans (hX_len _ _ _) D.le)⟩

set_option maxHeartbeats 16000000 in
set_option maxRecDepth 10000 in
theorem weigains_any : WgGainsGives := by
  intro a b ts xs ca cb w ht hx
  have WR := hide (growrong_any a b ts xs ca cb w ht hx)
  by_cases he : M.rdyF ts (sms xs) = 0
  · obtain ⟨m, D⟩ := Dwn.of he
    have F := D.fair
    have l63 := F.1
    have l0 := F.2.1
    have m8 : (m : Int) ≤ 8 := F.2.2.2.1
    have EV : M.gnV ts (sms xs) = M.rankU true (M.cU (fun i => M.cntN (i : Int) ts) (fun i => M.gnK ts (sms xs) (i : Int) ts.length)) := by unfold M.gnV; rw [if_pos he]; rfl
    have tb : ∀ s ∈ sms xs, -1000 ≤ s.2 ∧ s.2 ≤ 1000 := fun s hs => by
      obtain ⟨x, hx, rfl⟩ := List.mem_map.1 hs
      exact D.tgt x hx
    have l60 : (sms xs).length ≤ 60 := by rw [sms_len]; exact D.le
    have CM := hide (fun W (hW : Below w.heap.size w W) => wcome_any a b ts xs ca cb m W (ht.below hW) (hx.below hW) D)
    obtain ⟨bt, ot, rfl, hbt, hct⟩ := ht.2 (by intro e; rw [e] at l0; simp at l0)
    have HN : Hid (∀ W, Below w.heap.size w W → ∀ j, j < ts.length → SixAt W bt (ot + j * 6) (M.nAt ts j)) := fun W hW j hj => (hct j hj).below hW hbt
    obtain ⟨A, hA⟩ : ∃ A : Nat → List M.Us, A = M.gA ts (sms xs) := ⟨_, rfl⟩
    have AK : Hid (∀ k, k < ts.length → M.nf (M.nAt ts k) ≠ -1 → ∃ p q f : Nat, M.nl (M.nAt ts k) = (p : Int) ∧ M.nr (M.nAt ts k) = (q : Int) ∧ M.nf (M.nAt ts k) = (f : Int) ∧ k < p ∧ p < ts.length ∧ k < q ∧ q < ts.length ∧ f < 8 ∧ (A k).set f ((f : Int), (M.uAt (A k) f).2.1 + 1, (M.uAt (A k) f).2.2 + (M.sprd (sms (hX ts xs k)) - M.sprd (sms (hX ts xs p)) - M.sprd (sms (hX ts xs q)))) = A (k + 1) ∧ (0 ≤ M.sprd (sms (hX ts xs k)) - M.sprd (sms (hX ts xs p)) - M.sprd (sms (hX ts xs q)))) := fun k hk hn => by
      obtain ⟨p, q, ep, eq, h1, h2, h3, h4, h5⟩ := M.ask_at F.2.2.2.2.1 hk hn
      obtain ⟨q1, q2, _⟩ := M.node_ask (F.2.2.2.2.1 k hk) hn
      have gi := gain_is D hk hn ep eq
      refine ⟨p, q, (M.nf (M.nAt ts k)).toNat, ep, eq, by omega, h1, h2, h3, h4, by omega, ?_, ?_⟩
      · rw [hA, ← gi]
        exact M.gA_ask hk (by omega) (by omega)
      · rw [← gi]; exact M.gain_pos _ _ _
    have LF : Hid (∀ k, k < ts.length → M.nf (M.nAt ts k) = -1 → A (k + 1) = A k) := fun k hk e => by rw [hA]; exact M.gA_leaf hk e
    have BD : Hid (∀ k f, k ≤ ts.length → f < 8 → 0 ≤ (M.uAt (A k) f).2.1 ∧ (M.uAt (A k) f).2.1 ≤ 63 ∧ 0 ≤ (M.uAt (A k) f).2.2 ∧ (M.uAt (A k) f).2.2 ≤ 3780000000) := fun k f hk hf => by rw [hA]; exact M.gA_bd tb l60 l63 hk hf
    have A0 : Hid (A 0 = List.replicate 8 (0, 0, 0)) := by unfold Hid; rw [hA]; exact M.gA_none _ _
    have MF := hide (most_any sortU_own true _ wgain_any (fun i => M.cntN (i : Int) ts) (fun i => M.gnK ts (sms xs) (i : Int) ts.length))
    rw [← M.gA_all ts (sms xs), ← hA] at MF
    have SP : Hid (∀ i, 0 ≤ M.sprd (sms (hX ts xs i)) ∧ M.sprd (sms (hX ts xs i)) ≤ 60000000) := fun i => D.sprd i
    have SQ : Hid (∀ i va vc W, RdL W va (hX ts xs i) → Calls Tryz.prog 41 #[.slice va (hX ts xs i).length vc] W fun e w' => e = .returned (.int .i64 (M.sprd (sms (hX ts xs i)))) ∧ Below W.heap.size W w') := fun i va vc W h => squares_any va (hX ts xs i) vc m W h (D.ask i)
    have RX : Hid (∀ W g B V i, Cm B W g ts.length V (hX ts xs) → V 0 = .slice b xs.length cb → Below w.heap.size w W → i < ts.length → ∃ va vc, V i = .slice va (hX ts xs i).length vc ∧ ∀ W', Cm B W' g ts.length V (hX ts xs) → Below w.heap.size w W' → RdL W' va (hX ts xs i)) := fun W g B V i hC h0 hW hi => by
      rcases Nat.eq_zero_or_pos i with z | z
      · subst z
        have e := hX_root D
        exact ⟨b, cb, by rw [e]; exact h0, fun W' _ hW' => by rw [e]; exact hx.below hW'⟩
      · have ml : (hX ts xs i).length ≤ maxLen := by have := hX_len ts xs i; have := D.le; unfold maxLen; omega
        obtain ⟨va, vc, e, _⟩ := hC.rd z hi ml (fun x hx' => (hx.2.1 x (hX_mem hx')).below hW)
        refine ⟨va, vc, e, fun W' hC' hW' => ?_⟩
        obtain ⟨vb, vd, e2, r⟩ := hC'.rd z hi ml (fun x hx' => (hx.2.1 x (hX_mem hx')).below hW')
        rw [e] at e2
        cases e2
        exact r
    rw [EV]
    obtain ⟨Z, hZ⟩ : ∃ Z, Z = M.rankU true (M.cU (fun i => M.cntN (i : Int) ts) (fun i => M.gnK ts (sms xs) (i : Int) ts.length)) := ⟨_, rfl⟩
    rw [← hZ] at MF ⊢
    rw [he, err_nil rfl] at WR
    rw [he, err_nil rfl]
    clear ht hx he D F EV tb l60 hct hA hZ m8
    go_enter Tryz.func15, Tryz.ntmps15
    go_upto_region 5 with (go_at_call 39; refine WR.out.mono ?_; rintro e w1 ⟨rfl, hb1⟩; have K1 := hide hb1; clear hb1)
    clear WR
    obtain ⟨wz, hwz⟩ : ∃ W, W = w1.alloc (.cells (usCells (List.replicate 8 (0, 0, 0))).toArray 62) := ⟨_, rfl⟩
    have hwz' := hwz
    rw [show (usCells (List.replicate 8 (0, 0, 0))).toArray = #[.int .i64 0, .int .i64 0, .int .i64 0, .int .i64 0, .int .i64 0, .int .i64 0, .int .i64 0, .int .i64 0, .int .i64 0, .int .i64 0, .int .i64 0, .int .i64 0, .int .i64 0, .int .i64 0, .int .i64 0, .int .i64 0, .int .i64 0, .int .i64 0, .int .i64 0, .int .i64 0, .int .i64 0, .int .i64 0, .int .i64 0, .int .i64 0] from rfl] at hwz'
    rw [← hwz']
    clear hwz'
    obtain ⟨gB, hgB⟩ : ∃ n, n = w1.heap.size := ⟨_, rfl⟩
    rw [← hgB]
    have gl : w.heap.size ≤ gB := by rw [hgB]; exact K1.out.size
    have AZ : Hid (ArrU wz w.heap.size gB (A 0)) := by unfold Hid; rw [A0.out, hwz, hgB]; exact ArrU.new w1 w.heap.size (by rw [← hgB]; exact gl)
    have KZ : Hid (Below w.heap.size w wz) := by rw [hwz]; exact K1.out.alloc K1.out.size _
    have GZ : Hid (gB < wz.heap.size) := AZ.out.lt.2
    have C1 := hide (CM.out wz KZ.out)
    clear hwz hgB K1 A0 CM
    go_upto_region 6 with (go_at_call 40; refine C1.out.mono ?_; rintro e w3 ⟨g, V, rfl, hv0, hc3, hb3⟩; have V0 := hide hv0; have C3 := hide hc3; have K3 := hide (below_on KZ.out hb3); have A3 := hide (AZ.out.up hb3); clear hv0 hc3 hb3)
    clear C1 AZ KZ
    go_wp2
    go_loopw [26] (fun i wr => ∃ k : Nat, k ≤ ts.length ∧ i = .int .i64 k ∧ Hid (ArrU wr w.heap.size gB (A k)) ∧ Hid (Cm wz.heap.size wr g ts.length V (hX ts xs)) ∧ Hid (Below w.heap.size w wr)) (fun i _ => ts.length - (intOf i).toNat)
    case atStart => exact ⟨0, Nat.zero_le _, rfl, A3, C3, K3⟩
    case round =>
      clear A3 C3 K3
      obtain ⟨k, hk, rfl, AU, CU, KU⟩ := hrel
      by_cases hlt : k < ts.length
      · have kz : (k : Int) < (ts.length : Int) := by omega
        obtain ⟨s0, s1, s2, s3, s4, s5⟩ := HN.out wr KU.out k hlt
        have UA : Hid (∀ o, ArrU (wr.alloc o) w.heap.size gB (A k) ∧ Cm wz.heap.size (wr.alloc o) g ts.length V (hX ts xs) ∧ Below w.heap.size w (wr.alloc o)) := fun o => ⟨AU.out.up ((Below.refl _ _).alloc (Nat.le_refl _) o), CU.out.up ((Below.refl _ _).alloc (Nat.le_refl _) o), KU.out.alloc KU.out.size o⟩
        by_cases hf : M.nf (M.nAt ts k) = -1
        · have e1 := LF.out k hlt hf
          rw [hf] at s0
          have U2 : Hid (∀ o, ArrU (wr.alloc o) w.heap.size gB (A (k + 1)) ∧ Cm wz.heap.size (wr.alloc o) g ts.length V (hX ts xs) ∧ Below w.heap.size w (wr.alloc o)) := fun o => by rw [e1]; exact UA.out o
          clear HN AK LF BD MF SP SQ RX hf e1 UA AU CU KU V0
          generalize M.nc (M.nAt ts k) = nc at *
          generalize M.nl (M.nAt ts k) = nl at *
          generalize M.nr (M.nAt ts k) = nr at *
          generalize M.ns (M.nAt ts k) = ns at *
          generalize M.nv (M.nAt ts k) = nv at *
          go_wp2
          go_roundw
          case rel => exact ⟨k + 1, by omega, by go_num, (U2.out _).1, (U2.out _).2.1, (U2.out _).2.2⟩
          case measure => simp [intOf]; omega
        · obtain ⟨p, q, f, ep, eq, ef, h1, h2, h3, h4, f8, eA, gp⟩ := AK.out k hlt hf
          have qf : ((f : Int) != -1) = true := by rw [bne_iff_ne]; omega
          obtain ⟨b1, b2, b3, b4⟩ := BD.out k f (by omega) f8
          obtain ⟨t1, t2⟩ := SP.out k
          obtain ⟨t3, t4⟩ := SP.out p
          obtain ⟨t5, t6⟩ := SP.out q
          obtain ⟨ka, kc, ek, rk⟩ := RX.out wr g wz.heap.size V k CU.out V0.out KU.out hlt
          obtain ⟨pa, pc, ep', rp⟩ := RX.out wr g wz.heap.size V p CU.out V0.out KU.out h2
          obtain ⟨qa, qc, eq', rq⟩ := RX.out wr g wz.heap.size V q CU.out V0.out KU.out h4
          have QK := hide (fun W h => SQ.out k ka kc W h)
          have QP := hide (fun W h => SQ.out p pa pc W h)
          have QQ := hide (fun W h => SQ.out q qa qc W h)
          have RK := hide rk
          have RP := hide rp
          have RQ := hide rq
          have EA := hide eA
          have VK : Hid (V k = .slice ka (hX ts xs k).length kc ∧ V p = .slice pa (hX ts xs p).length pc ∧ V q = .slice qa (hX ts xs q).length qc) := ⟨ek, ep', eq'⟩
          rw [ep] at s2
          rw [eq] at s3
          rw [ef] at s0
          clear HN AK LF BD MF SP SQ RX hf ek ep' eq' rk rp rq eA ep eq ef V0
          generalize M.nc (M.nAt ts k) = nc at *
          generalize M.ns (M.nAt ts k) = ns at *
          generalize M.nv (M.nAt ts k) = nv at *
          generalize M.sprd (sms (hX ts xs k)) = sk at *
          generalize M.sprd (sms (hX ts xs p)) = sp at *
          generalize M.sprd (sms (hX ts xs q)) = sq at *
          generalize (hX ts xs k).length = nk at *
          generalize (hX ts xs p).length = np at *
          generalize (hX ts xs q).length = nq at *
          have x1 : IntKind.i64.wrap (sk - sp) = sk - sp := wrap_in5 _ (by omega) (by omega)
          have x2 : IntKind.i64.wrap (sk - sp - sq) = sk - sp - sq := wrap_in5 _ (by omega) (by omega)
          obtain ⟨W5, hW5⟩ : ∃ X, X = wr.alloc (.cells #[.int .i64 (f : Nat), .int .i64 nc, .int .i64 (p : Nat), .int .i64 (q : Nat), .bool ns, .int .i64 nv] 64) := ⟨_, rfl⟩
          have U5 : Hid (ArrU W5 w.heap.size gB (A k) ∧ Cm wz.heap.size W5 g ts.length V (hX ts xs) ∧ Below w.heap.size w W5) := by rw [hW5]; exact UA.out _
          have S5 : Hid (W5.heap.size = wr.heap.size + 1) := by rw [hW5]; simp [Hid]
          have GW : Hid (gB < wr.heap.size ∧ gB ≠ g ∧ wr.heap.size ≠ g) := ⟨AU.out.lt.2, by have := CU.out.lt.1; have := GZ.out; omega, by have := CU.out.lt.2; omega⟩
          -- what is read
          have CE : Hid (∀ X, (X.heap[wr.heap.size]? = W5.heap[wr.heap.size]? ∧ Cm wz.heap.size X g ts.length V (hX ts xs)) → (X.cell? ⟨wr.heap.size, 0, none⟩ = some (.int .i64 (f : Nat)) ∧ X.cell? ⟨wr.heap.size, 2, none⟩ = some (.int .i64 (p : Nat)) ∧ X.cell? ⟨wr.heap.size, 3, none⟩ = some (.int .i64 (q : Nat))) ∧ X.cell? ⟨g, k, none⟩ = some (.slice ka nk kc) ∧ X.cell? ⟨g, p, none⟩ = some (.slice pa np pc) ∧ X.cell? ⟨g, q, none⟩ = some (.slice qa nq qc)) := fun X hX => by
            have bk : ∀ j v, W5.cell? ⟨wr.heap.size, j, none⟩ = some v → X.cell? ⟨wr.heap.size, j, none⟩ = some v := fun j v h => (World.cell?_of_block (a := ⟨wr.heap.size, j, none⟩) hX.1).trans h
            refine ⟨⟨bk 0 _ (by rw [hW5]; exact World.cell?_alloc_at _ _ _ 0 rfl), bk 2 _ (by rw [hW5]; exact World.cell?_alloc_at _ _ _ 2 rfl), bk 3 _ (by rw [hW5]; exact World.cell?_alloc_at _ _ _ 3 rfl)⟩, ?_, ?_, ?_⟩
            · rw [hX.2.cell hlt, VK.out.1]
            · rw [hX.2.cell h2, VK.out.2.1]
            · rw [hX.2.cell h4, VK.out.2.2]
          have CB : Hid (∀ X, Below W5.heap.size W5 X → (X.heap[wr.heap.size]? = W5.heap[wr.heap.size]? ∧ Cm wz.heap.size X g ts.length V (hX ts xs)) ∧ Below w.heap.size w X) := fun X hX => ⟨⟨hX.block _ (by rw [S5.out]; omega), U5.out.2.1.up hX⟩, below_on U5.out.2.2 hX⟩
          have AD : Hid (∀ X, Below W5.heap.size W5 X → Calls Tryz.prog 25 #[.pointer (some ⟨gB, 0, none⟩), .int .i64 (f : Nat), .int .i64 (sk - sp - sq)] X fun e w' => e = .returned (.tuple #[]) ∧ ArrU w' w.heap.size gB (A (k + 1)) ∧ (w'.heap[wr.heap.size]? = W5.heap[wr.heap.size]? ∧ Cm wz.heap.size w' g ts.length V (hX ts xs)) ∧ Below w.heap.size w w') := fun X hX => by
            refine (wadd_any w.heap.size gB f (A k) (sk - sp - sq) X (U5.out.1.up hX) f8 b1 (by omega) b3 (by omega) gp (by omega)).mono ?_
            rintro e w' ⟨rfl, q1, q2⟩
            rw [EA.out] at q1
            have cb' := CB.out X hX
            refine ⟨rfl, q1, ⟨(q2.block _ (by have := hX.size; have := S5.out; omega) (fun z => by have := GW.out.1; cases z; omega)).trans cb'.1.1, cb'.1.2.kept GZ.out q2⟩, cb'.2.grown q2 cb'.2.size (fun z hz => by cases hz; exact gl)⟩
          clear UA AU CU KU b1 b2 b3 b4
          go_upto_region 9 with fail
          rw [← hW5]
          obtain ⟨⟨c0, c2, c3⟩, c4, c5, c6⟩ := CE.out W5 ⟨rfl, U5.out.2.1⟩
          clear hW5 s0 s1 s2 s3 s4 s5
          have DR : Hid (Below W5.heap.size W5 W5.drew) := (Below.refl _ _).drew
          have kz3 : (0 : Int) ≤ (k : Int) := by omega
          have pz : (p : Int) < (ts.length : Int) := by omega
          have qz : (q : Int) < (ts.length : Int) := by omega
          go_upto_region 10 with fail
          go_region_held3 (fun X => X.cell? ⟨wr.heap.size, 0, none⟩ = some (.int .i64 (f : Nat)) ∧ X.cell? ⟨wr.heap.size, 2, none⟩ = some (.int .i64 (p : Nat)) ∧ X.cell? ⟨wr.heap.size, 3, none⟩ = some (.int .i64 (q : Nat)) ∧ X.cell? ⟨g, k, none⟩ = some (.slice ka nk kc) ∧ X.cell? ⟨g, p, none⟩ = some (.slice pa np pc) ∧ X.cell? ⟨g, q, none⟩ = some (.slice qa nq qc)) (go_keep) (first
            | (go_at_call 25; refine (AD.out _ H8.out).mono ?_; rintro e w9 ⟨rfl, q1, q2, q3⟩; have A9 := hide q1; have C9 := hide q2.2; have K9 := hide q3; have E9 := CE.out w9 q2; have e90 := E9.1.1; have e91 := E9.1.2.1; have e92 := E9.1.2.2; have e93 := E9.2.1; have e94 := E9.2.2.1; have e95 := E9.2.2.2; clear E9 q1 q2 q3)
            | (go_at_call 41; have H7' := H7; refine (QQ.out _ (RQ.out _ (CB.out _ H7'.out).1.2 (CB.out _ H7'.out).2)).mono ?_; rintro e w8 ⟨rfl, hb8⟩; have H8 := hide (below_on H7'.out hb8); have E8 := CE.out w8 (CB.out w8 H8.out).1; have e80 := E8.1.1; have e81 := E8.1.2.1; have e82 := E8.1.2.2; have e83 := E8.2.1; have e84 := E8.2.2.1; have e85 := E8.2.2.2; clear E8 hb8 H7')
            | (go_at_call 41; have H6' := H6; refine (QP.out _ (RP.out _ (CB.out _ H6'.out).1.2 (CB.out _ H6'.out).2)).mono ?_; rintro e w7 ⟨rfl, hb7⟩; have H7 := hide (below_on H6'.out hb7); have E7 := CE.out w7 (CB.out w7 H7.out).1; have e70 := E7.1.1; have e71 := E7.1.2.1; have e72 := E7.1.2.2; have e73 := E7.2.1; have e74 := E7.2.2.1; have e75 := E7.2.2.2; clear E7 hb7 H6')
            | (go_at_call 41; refine (QK.out _ (RK.out _ (CB.out _ DR.out).1.2 (CB.out _ DR.out).2)).mono ?_; rintro e w6 ⟨rfl, hb6⟩; have H6 := hide (below_on DR.out hb6); have E6 := CE.out w6 (CB.out w6 H6.out).1; have e60 := E6.1.1; have e61 := E6.1.2.1; have e62 := E6.1.2.2; have e63 := E6.2.1; have e64 := E6.2.2.1; have e65 := E6.2.2.2; clear E6 hb6))
          go_wp2
          go_roundw
          case rel => exact ⟨k + 1, by omega, by go_num, A9, C9, K9⟩
          case measure => simp [intOf]; omega
      · have ke : k = ts.length := by omega
        have kz : ¬ ((k : Int) < (ts.length : Int)) := by omega
        have A2 : ArrU wr w.heap.size gB (A ts.length) := by rw [← ke]; exact AU.out
        have bk := A2.block
        have E24 : Hid ((Tryz.prog.info? 62).map (·.size) = some (usCells (A ts.length)).toArray.size) := by unfold Hid; rw [infoCnt, List.size_toArray, usCells_len, A2.1]
        have MC := hide (MF.out wr)
        clear HN AK LF BD MF SP SQ RX AU CU A2 ke V0
        go_wp2_with (first
          | (refine wpList_load_row rfl 62 (.tmp 8) rfl gB rfl 62 _ (0, 0) _ bk Tryz.underlying62 rfl E24.out ?_)
          | (go_at_call 26; refine MC.out.mono ?_; rintro e w6 ⟨a, cp, rfl, hr, hb⟩; have R6 := hide hr; have K6 := hide (below_on KU.out hb); clear hr hb))
        go_ret2
        exact ⟨a, cp, rfl, R6.out, K6.out⟩
  · have EV : M.gnV ts (sms xs) = [] := by unfold M.gnV; rw [if_neg he]
    rw [EV, err_some he]
    rw [err_some he] at WR
    clear ht hx EV he
    generalize M.rdyF ts (sms xs) = er at *
    generalize M.wrgV ts (sms xs) = wv at *
    generalize ts.length = n at *
    generalize xs.length = n2 at *
    go_enter Tryz.func15, Tryz.ntmps15
    go_wp2_with (go_at_call 39; refine WR.out.mono ?_; rintro e w1 ⟨rfl, hb1⟩; have K1 := hide hb1; clear hb1)
    go_ret2
    exact ⟨none, 0, rfl, ⟨Nat.zero_le _, fun h => absurd rfl h⟩, K1.out⟩

end Go.Proofs.YtlloiccodjnkcagGreatDoor
